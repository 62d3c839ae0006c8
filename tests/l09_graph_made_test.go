package tests

import (
	"reflect"
	"slices"
	"strconv"
	"strings"
	"testing"

	"loop.example/g00276/impl"
)

// From here on the document's chapter is told once more, sentence by sentence.

func setByWords(list []impl.Source) bool {
	for i, s := range list {
		if !impl.NameOk(s.Name) || len(s.Text) > greatestText || i > 0 && list[i-1].Name >= s.Name {
			return false
		}
	}
	return len(list) <= impl.MaxModules
}

func hasModule(list []impl.Source, name string) bool {
	return slices.ContainsFunc(list, func(s impl.Source) bool { return s.Name == name })
}

func importsByWords(list []impl.Source, name string) (within, missing []string) {
	if !setByWords(list) {
		return nil, nil
	}
	for _, s := range list {
		if s.Name != name {
			continue
		}
		m, line := impl.ParseModule(s.Text)
		if line > 0 {
			return nil, nil
		}
		for _, imported := range m.Imports {
			if hasModule(list, imported) {
				within = append(within, imported)
			} else {
				missing = append(missing, imported)
			}
		}
	}
	slices.Sort(within)
	return within, missing
}

// A wordsGraph has what each module of a set imports, and to which others one comes from it.
type wordsGraph struct {
	list    []impl.Source
	imports map[string][]string
	comes   map[[2]string]bool
}

func graphByWords(list []impl.Source) *wordsGraph {
	g := &wordsGraph{imports: map[string][]string{}, comes: map[[2]string]bool{}}
	if !setByWords(list) {
		return g
	}
	g.list = list
	for _, s := range list {
		within, _ := importsByWords(list, s.Name)
		g.imports[s.Name] = within
		for _, name := range within {
			g.comes[[2]string{s.Name, name}] = true
		}
	}
	for _, by := range list {
		for _, from := range list {
			for _, to := range list {
				if g.comes[[2]string{from.Name, by.Name}] && g.comes[[2]string{by.Name, to.Name}] {
					g.comes[[2]string{from.Name, to.Name}] = true
				}
			}
		}
	}
	return g
}

func (g *wordsGraph) circles() []string {
	var names []string
	for _, s := range g.list {
		if g.comes[[2]string{s.Name, s.Name}] {
			names = append(names, s.Name)
		}
	}
	return names
}

func (g *wordsGraph) rank(name string) int {
	if !hasModule(g.list, name) {
		return -1
	}
	if g.comes[[2]string{name, name}] {
		return 0
	}
	rank := 0
	for _, imported := range g.imports[name] {
		rank = max(rank, g.rank(imported)+1)
	}
	return rank
}

func (g *wordsGraph) levels() [][]string {
	var levels [][]string
	for rank := range len(g.list) {
		var names []string
		for _, s := range g.list {
			if g.rank(s.Name) == rank {
				names = append(names, s.Name)
			}
		}
		if len(names) > 0 {
			levels = append(levels, names)
		}
	}
	return levels
}

func (g *wordsGraph) above(name string) []string {
	var names []string
	for _, s := range g.list {
		if g.comes[[2]string{s.Name, name}] {
			names = append(names, s.Name)
		}
	}
	return names
}

// graphAsByWords holds all that the chapter tells of a set, of its modules and of some other names, against its words.
func graphAsByWords(t *testing.T, list []impl.Source, others ...string) *wordsGraph {
	t.Helper()
	g := graphByWords(list)
	if impl.SetOk(list) != setByWords(list) {
		t.Fatalf("SetOk = %t of\n%s", impl.SetOk(list), setText(list))
	}
	if got := impl.Circles(list); !slices.Equal(got, g.circles()) {
		t.Fatalf("Circles = %q, want %q, of\n%s", got, g.circles(), setText(list))
	}
	levels := g.levels()
	if got := impl.Levels(list); !slices.EqualFunc(got, levels, slices.Equal) {
		t.Fatalf("Levels = %q, want %q, of\n%s", got, levels, setText(list))
	}
	if got := impl.Order(list); !slices.Equal(got, slices.Concat(levels...)) {
		t.Fatalf("Order = %q, want %q, of\n%s", got, slices.Concat(levels...), setText(list))
	}
	for _, s := range list {
		others = append(others, s.Name)
	}
	for _, name := range others {
		within, missing := importsByWords(list, name)
		if got := impl.ImportsOf(list, name); !slices.Equal(got, within) {
			t.Fatalf("ImportsOf %q = %q, want %q, of\n%s", name, got, within, setText(list))
		}
		if got := impl.Missing(list, name); !slices.Equal(got, missing) {
			t.Fatalf("Missing of %q = %q, want %q, of\n%s", name, got, missing, setText(list))
		}
		if got := impl.Rank(list, name); got != g.rank(name) {
			t.Fatalf("Rank of %q = %d, want %d, of\n%s", name, got, g.rank(name), setText(list))
		}
		if got := impl.Above(list, name); !slices.Equal(got, g.above(name)) {
			t.Fatalf("Above %q = %q, want %q, of\n%s", name, got, g.above(name), setText(list))
		}
	}
	return g
}

// wantPromiseOfOrder asks the chapter's functions alone, each against the others.
func wantPromiseOfOrder(t *testing.T, list []impl.Source) {
	t.Helper()
	order, circles, levels := impl.Order(list), impl.Circles(list), impl.Levels(list)
	place, level := map[string]int{}, map[string]int{}
	for i, name := range order {
		place[name] = i
	}
	for i, names := range levels {
		for _, name := range names {
			level[name] = i
		}
		if len(names) == 0 || !slices.IsSorted(names) {
			t.Fatalf("a level %q of\n%s", names, setText(list))
		}
	}
	if len(order) != len(list) || len(place) != len(list) || len(level) != len(list) || !slices.Equal(slices.Concat(levels...), order) {
		t.Fatalf("Order %q and Levels %q of\n%s", order, levels, setText(list))
	}
	above := map[string][]string{}
	for _, s := range list {
		above[s.Name] = impl.Above(list, s.Name)
	}
	for _, s := range list {
		name := s.Name
		isOfCircle := slices.Contains(circles, name)
		if isOfCircle != slices.Contains(above[name], name) {
			t.Fatalf("%s is of Circles %q, and Above it are %q, of\n%s", name, circles, above[name], setText(list))
		}
		if rank := impl.Rank(list, name); rank != level[name] || isOfCircle && rank != 0 {
			t.Fatalf("%s has Rank %d, of Levels %q, of\n%s", name, rank, levels, setText(list))
		}
		for _, imported := range impl.ImportsOf(list, name) {
			if !isOfCircle && (place[imported] >= place[name] || level[imported] >= level[name]) {
				t.Fatalf("%s imports %s, and Levels are %q, of\n%s", name, imported, levels, setText(list))
			}
			if !slices.Contains(above[imported], name) {
				t.Fatalf("%s imports %s and is not Above it, of\n%s", name, imported, setText(list))
			}
			for of, names := range above {
				if slices.Contains(names, imported) && !slices.Contains(names, name) {
					t.Fatalf("%s imports %s, which alone is Above %s, of\n%s", name, imported, of, setText(list))
				}
			}
		}
	}
}

// setOfBits has modules of some names, the imports of each by the bits of a number: the names, and behind them some
// that are not in the set. The number that has one bit more is that of a module that is not parsed.
func setOfBits(names, missing []string, bits []int) []impl.Source {
	all := append(slices.Clone(names), missing...)
	var list []impl.Source
	for i, name := range names {
		text := ""
		for k, imported := range all {
			if bits[i]&(1<<k) > 0 {
				text += "import " + imported + "\n"
			}
		}
		if bits[i] == 1<<len(all) {
			text = "import " + strings.Join(all, "\nimport ") + "\n?"
		}
		list = append(list, impl.Source{Name: name, Text: text})
	}
	return list
}

// eachNumbers hands out all lists of so many numbers below a bound.
func eachNumbers(count, below int, do func(list []int)) {
	list := make([]int, count)
	for {
		do(list)
		at := 0
		for at < count && list[at] == below-1 {
			list[at] = 0
			at++
		}
		if at == count {
			return
		}
		list[at]++
	}
}

func TestEachSetOfThreeModulesAsTheWordsTell(t *testing.T) {
	circles, ranks := map[int]int{}, map[int]int{}
	eachNumbers(3, 17, func(bits []int) {
		list := setOfBits([]string{"a", "b", "c"}, []string{"n"}, bits)
		g := graphAsByWords(t, list, "n", "", "let")
		wantPromiseOfOrder(t, list)
		circles[len(g.circles())]++
		ranks[len(g.levels())]++
	})
	if circles[0] < 100 || circles[1] < 100 || circles[2] < 100 || circles[3] < 100 || ranks[1] < 100 || ranks[2] < 100 || ranks[3] < 100 {
		t.Error("the test's sets are of one sort:", circles, ranks)
	}
}

func TestEachSetOfFourModulesAsTheWordsTell(t *testing.T) {
	names := []string{"a", "b", "c", "d"}
	circles := map[int]int{}
	// Whether a module imports itself is told of one of them alone: all of them make sixteen times as many sets.
	eachNumbers(4, 8, func(others []int) {
		for itself := range 2 {
			bits := make([]int, 4)
			for i, of := range others {
				bits[i] = of&(1<<i-1) | of>>i<<(i+1)
			}
			bits[3] |= itself << 3
			g := graphAsByWords(t, setOfBits(names, nil, bits), "e")
			circles[len(g.circles())]++
		}
	})
	for count := range 5 {
		if circles[count] < 100 {
			t.Error("the test's sets are of one sort:", circles)
		}
	}
}

// A setMaker makes sets of modules of which some are not parsed, some have definitions, and some import what is not
// in the set.
type setMaker struct {
	typeMaker
}

func (m *setMaker) names() []string {
	names := map[string]bool{}
	for range m.next(impl.MaxModules + 1) {
		name := string([]byte{"abcdefgXYZ"[m.next(10)]})
		if m.next(2) == 0 {
			name += strconv.Itoa(m.next(20))
		}
		names[name] = true
	}
	var out []string
	for name := range names {
		out = append(out, name)
	}
	slices.Sort(out)
	return out
}

func (m *setMaker) set() []impl.Source {
	names := m.names()
	isUpward := m.next(3) > 0
	many := 1 + m.next(4)
	order := slices.Clone(names)
	for i := range order {
		k := m.next(i + 1)
		order[i], order[k] = order[k], order[i]
	}
	texts := map[string]string{}
	for i, name := range order {
		from := order
		if isUpward && m.next(20) > 0 {
			from = order[:i]
		}
		texts[name] = m.text(from, many)
	}
	var list []impl.Source
	for _, name := range names {
		list = append(list, impl.Source{Name: name, Text: texts[name]})
	}
	return list
}

func (m *setMaker) text(from []string, many int) string {
	var imports []string
	for range m.next(many + 1) {
		name := "n" + strconv.Itoa(m.next(9))
		if len(from) > 0 && m.next(6) > 0 {
			name = from[m.next(len(from))]
		}
		if !slices.Contains(imports, name) || m.next(40) == 0 {
			imports = append(imports, name)
		}
	}
	text := ""
	for _, name := range imports {
		text += []string{"import ", "import # a b\n ", "\n import  "}[m.next(3)] + name + []string{"\n", " ", "#import c\n"}[m.next(3)]
	}
	switch m.next(12) {
	case 0:
		text += "let x = 1"
	case 1:
		text += "fn f(a: int, b: T): c.T = a.x(b)\ntype T = d.U"
	case 2:
		text += "let x = "
	case 3:
		text += strings.Repeat(" ", impl.MaxSource-5+m.next(10)-min(len(text), impl.MaxSource-5))
	}
	return text
}

func TestSetsThatAreMadeAsTheWordsTell(t *testing.T) {
	circles, straight, missing, unparsed, deep := 0, 0, 0, 0, 0
	for seed := range uint64(3000) {
		m := &setMaker{typeMaker{bytes: someBytes(seed+909090, 500)}}
		list := m.set()
		g := graphAsByWords(t, list, "n1", "n2", "zz", "")
		wantPromiseOfOrder(t, list)
		if len(g.circles()) > 0 {
			circles++
		} else {
			straight++
		}
		if len(g.levels()) > 4 {
			deep++
		}
		for _, s := range list {
			if _, line := impl.ParseModule(s.Text); line > 0 {
				unparsed++
			}
			if len(impl.Missing(list, s.Name)) > 0 {
				missing++
			}
		}
	}
	if circles < 500 || straight < 500 || missing < 500 || unparsed < 500 || deep < 200 {
		t.Error("the test's sets are of one sort:", circles, straight, missing, unparsed, deep)
	}
}

func TestWrongSetsThatAreMadeAsTheWordsTell(t *testing.T) {
	wrong := 0
	for seed := range uint64(2000) {
		m := &setMaker{typeMaker{bytes: someBytes(seed+515151, 500)}}
		list := m.set()
		if len(list) < 2 {
			continue
		}
		i, k := m.next(len(list)), m.next(len(list))
		switch m.next(5) {
		case 0:
			list[i], list[k] = list[k], list[i]
		case 1:
			list[i].Name = list[k].Name
		case 2:
			list[i].Name = wrongNames[m.next(len(wrongNames))]
		case 3:
			list[i].Text = strings.Repeat("\n", greatestText+m.next(2))
		case 4:
			list = append(list, m.set()...)
		}
		graphAsByWords(t, list, "a", "")
		if !setByWords(list) {
			wrong++
		}
	}
	if wrong < 1000 {
		t.Error("the test's sets are of one sort:", wrong)
	}
}

// The order hangs on what is imported alone, and on the names only among those of one rank.
func TestOrderHangsOnImportsAlone(t *testing.T) {
	for seed := range uint64(300) {
		m := &setMaker{typeMaker{bytes: someBytes(seed+31313, 500)}}
		list := m.set()
		other := slices.Clone(list)
		for i, s := range list {
			if _, line := impl.ParseModule(s.Text); line > 0 {
				other[i].Text = ""
				continue
			}
			within, missing := importsByWords(list, s.Name)
			other[i].Text = "let y = 2"
			for _, name := range append(missing, within...) {
				other[i].Text = "import " + name + "\n" + other[i].Text
			}
		}
		if !slices.EqualFunc(impl.Levels(list), impl.Levels(other), slices.Equal) || !slices.Equal(impl.Circles(list), impl.Circles(other)) {
			t.Fatalf("Levels %q and %q, of\n%sand\n%s", impl.Levels(list), impl.Levels(other), setText(list), setText(other))
		}
	}
}

func (m *memoryOf) addSources(list []impl.Source) {
	list = list[:cap(list)]
	for i := range list {
		m.places[&list[i]]++
		m.texts = append(m.texts, list[i].Name, list[i].Text)
	}
}

func (m *memoryOf) addLevels(levels [][]string) {
	levels = levels[:cap(levels)]
	for i := range levels {
		m.places[&levels[i]]++
		m.addNames(levels[i])
	}
}

// lookAtSet hands out a list with room behind it, its memory, and a look at what is answered of it.
func lookAtSet(t *testing.T, of []impl.Source) (list []impl.Source, given *memoryOf, look func(what string, add func(a *memoryOf))) {
	t.Helper()
	list = make([]impl.Source, 0, len(of)+2)
	for _, s := range of {
		list = append(list, impl.Source{Name: strings.Clone(s.Name), Text: strings.Clone(s.Text)})
	}
	list[:cap(list)][len(list)] = impl.Source{Name: "spare", Text: "import spare"}
	before := slices.Clone(list[:cap(list)])
	given = newMemory()
	given.addSources(list)
	look = func(what string, add func(a *memoryOf)) {
		t.Helper()
		answer := newMemory()
		add(answer)
		wantNewMemory(t, what, answer, given)
		if !slices.Equal(list[:cap(list)], before) {
			t.Fatalf("%s wrote into\n%s", what, setText(of))
		}
	}
	return list, given, look
}

// wantNewGraphs calls each function of the chapter with a list that has room behind it, and writes into what it
// answers.
func wantNewGraphs(t *testing.T, of []impl.Source) {
	t.Helper()
	list, given, look := lookAtSet(t, of)
	look("SetOk", func(a *memoryOf) { impl.SetOk(list) })
	look("Circles", func(a *memoryOf) { a.addNames(impl.Circles(list)) })
	look("Order", func(a *memoryOf) { a.addNames(impl.Order(list)) })
	look("Levels", func(a *memoryOf) { a.addLevels(impl.Levels(list)) })
	for _, s := range append(slices.Clone(list), impl.Source{Name: "none"}) {
		given.texts = append(given.texts, s.Name)
		look("ImportsOf", func(a *memoryOf) { a.addNames(impl.ImportsOf(list, s.Name)) })
		look("Missing", func(a *memoryOf) { a.addNames(impl.Missing(list, s.Name)) })
		look("Rank", func(a *memoryOf) { impl.Rank(list, s.Name) })
		look("Above", func(a *memoryOf) { a.addNames(impl.Above(list, s.Name)) })
	}
	again := impl.Levels(list)
	for _, names := range impl.Levels(list) {
		for i := range names {
			names[i] = "changed"
		}
	}
	if !reflect.DeepEqual(impl.Levels(list), again) {
		t.Error("two answers share a list")
	}
}

func TestNothingIsWrittenIntoSetsAndAnswersAreNew(t *testing.T) {
	wantNewGraphs(t, nil)
	wantNewGraphs(t, setFrom("a d none b", "b c", "c", "d e", "e d c", "f d", "g b c"))
	wantNewGraphs(t, setFrom("b a", "a b"))
	wantNewGraphs(t, rowOf(impl.MaxModules, ""))
	wantNewGraphs(t, rowOf(impl.MaxModules+1, ""))
	for seed := range uint64(200) {
		m := &setMaker{typeMaker{bytes: someBytes(seed+717171, 500)}}
		wantNewGraphs(t, m.set())
	}
}

func callGraph(list []impl.Source, name string) {
	impl.SetOk(list)
	impl.ImportsOf(list, name)
	impl.Missing(list, name)
	impl.Circles(list)
	impl.Rank(list, name)
	impl.Order(list)
	impl.Levels(list)
	impl.Above(list, name)
}

func TestAnySetIsAnswered(t *testing.T) {
	long := strings.Repeat("import a\n", 100000)
	for _, name := range []string{"", "a", "let", "\xff", strings.Repeat("a", 1000000), long} {
		for _, text := range []string{"", long, long[:impl.MaxSource], long[:greatestText], strings.Repeat("(", impl.MaxSource), "let x = " + strings.Repeat("(", 2900), "type T = " + strings.Repeat("{a: ", 700), strings.Repeat("import a ", 300), strings.Repeat("\x00", impl.MaxSource)} {
			for _, count := range []int{1, 2, impl.MaxModules, impl.MaxModules + 1, 1000} {
				list := make([]impl.Source, count)
				for i := range list {
					list[i] = impl.Source{Name: name, Text: text}
				}
				callGraph(list, name)
				for i := range list {
					list[i].Name = "n" + strconv.Itoa(1000+i)
				}
				callGraph(list, name)
				callGraph(list, list[0].Name)
			}
		}
	}
	for seed := range uint64(2000) {
		var list []impl.Source
		bytes := someBytes(seed, 200)
		for len(bytes) > 60 {
			name, text := int(bytes[0])%4, int(bytes[1])%50
			list = append(list, impl.Source{Name: string(bytes[2 : 2+name]), Text: "import " + string(bytes[2+name:6+name+text])})
			bytes = bytes[6+name+text:]
		}
		callGraph(list, string(someBytes(seed+1, 1)))
		graphAsByWords(t, list)
	}
}

func FuzzGraph(f *testing.F) {
	for seed := range uint64(4) {
		f.Add(someBytes(seed, 300), "import a\nimport n1\nlet x = 1", "a")
	}
	f.Fuzz(func(t *testing.T, bytes []byte, text, name string) {
		m := &setMaker{typeMaker{bytes: bytes[:min(len(bytes), 600)]}}
		list := m.set()
		graphAsByWords(t, list, name)
		wantPromiseOfOrder(t, list)
		for i := range list {
			kept := list[i]
			list[i].Text = text
			graphAsByWords(t, list, name)
			list[i].Name = name
			graphAsByWords(t, list, kept.Name)
			list[i] = kept
		}
	})
}
