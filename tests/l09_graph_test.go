package tests

import (
	"slices"
	"strconv"
	"strings"
	"testing"

	"loop.example/g00276/impl"
)

const greatestText = 50000

// setFrom has a module for each text, which is its name and what it imports.
func setFrom(modules ...string) []impl.Source {
	var list []impl.Source
	for _, m := range modules {
		words := strings.Fields(m)
		text := ""
		for _, name := range words[1:] {
			text += "import " + name + "\n"
		}
		list = append(list, impl.Source{Name: words[0], Text: text + "let x = 1\n"})
	}
	return list
}

func listText(names []string) string {
	return strings.Join(names, " ")
}

func levelsText(levels [][]string) string {
	var rows []string
	for _, names := range levels {
		rows = append(rows, listText(names))
	}
	return strings.Join(rows, " / ")
}

// setText shows as much of a set as one can read.
func setText(list []impl.Source) string {
	text := ""
	for _, s := range list[:min(len(list), 2*impl.MaxModules)] {
		if len(s.Text) > 100 {
			s.Text = s.Text[:100] + ".."
		}
		text += strconv.Quote(s.Name) + ": " + strconv.Quote(s.Text) + "\n"
	}
	return text
}

// wantLevels holds Levels, Order and Rank against names by rank, with / between two ranks, and Circles.
func wantLevels(t *testing.T, list []impl.Source, levels, circles string) {
	t.Helper()
	if !impl.SetOk(list) {
		t.Errorf("not SetOk:\n%s", setText(list))
	}
	if got := levelsText(impl.Levels(list)); got != levels {
		t.Errorf("Levels = %q, want %q, of\n%s", got, levels, setText(list))
	}
	if got, want := listText(impl.Order(list)), strings.ReplaceAll(levels, " / ", " "); got != want {
		t.Errorf("Order = %q, want %q, of\n%s", got, want, setText(list))
	}
	if got := listText(impl.Circles(list)); got != circles {
		t.Errorf("Circles = %q, want %q, of\n%s", got, circles, setText(list))
	}
	for rank, names := range strings.Split(levels, " / ") {
		for _, name := range strings.Fields(names) {
			if got := impl.Rank(list, name); got != rank {
				t.Errorf("Rank of %s = %d, want %d, of\n%s", name, got, rank, setText(list))
			}
		}
	}
}

func wantImports(t *testing.T, list []impl.Source, name, imports, missing string) {
	t.Helper()
	if got := listText(impl.ImportsOf(list, name)); got != imports {
		t.Errorf("ImportsOf %.60q = %q, want %q, of\n%s", name, got, imports, setText(list))
	}
	if got := listText(impl.Missing(list, name)); got != missing {
		t.Errorf("Missing of %.60q = %q, want %q, of\n%s", name, got, missing, setText(list))
	}
}

func wantAbove(t *testing.T, list []impl.Source, name, want string) {
	t.Helper()
	if got := listText(impl.Above(list, name)); got != want {
		t.Errorf("Above %.60q = %q, want %q, of\n%s", name, got, want, setText(list))
	}
}

// wantNothingOf asks for a module that is none.
func wantNothingOf(t *testing.T, list []impl.Source, name string) {
	t.Helper()
	wantImports(t, list, name, "", "")
	wantAbove(t, list, name, "")
	if got := impl.Rank(list, name); got != -1 {
		t.Errorf("Rank of %.60q = %d, of\n%s", name, got, setText(list))
	}
}

func wantNoSet(t *testing.T, what string, list []impl.Source) {
	t.Helper()
	if impl.SetOk(list) {
		t.Errorf("SetOk of %s", what)
	}
	if len(impl.Circles(list))+len(impl.Order(list))+len(impl.Levels(list)) > 0 {
		t.Errorf("%s: Circles %q, Order %q, Levels %q", what, impl.Circles(list), impl.Order(list), impl.Levels(list))
	}
	for _, s := range list[:min(len(list), 30)] {
		wantNothingOf(t, list, s.Name)
	}
	wantNothingOf(t, list, "zz")
}

func TestConstantsOfSets(t *testing.T) {
	if impl.MaxModules != 20 {
		t.Error(impl.MaxModules)
	}
}

func TestSetsWithoutCircles(t *testing.T) {
	wantLevels(t, setFrom("a"), "a", "")
	wantLevels(t, setFrom("a", "b", "c"), "a b c", "")
	// a chain, in the order of its names, against it, and neither
	wantLevels(t, setFrom("a", "b a", "c b", "d c"), "a / b / c / d", "")
	wantLevels(t, setFrom("a b", "b c", "c d", "d"), "d / c / b / a", "")
	wantLevels(t, setFrom("a c", "b", "c d", "d b"), "b / d / c / a", "")
	// a diamond, and one with a way that is shorter
	wantLevels(t, setFrom("a b c", "b d", "c d", "d"), "d / b c / a", "")
	wantLevels(t, setFrom("a b d", "b c", "c d", "d"), "d / c / b / a", "")
	wantLevels(t, setFrom("a", "b a", "c a b", "d a", "e b d c"), "a / b d / c / e", "")
	// several that have nothing to do with each other
	wantLevels(t, setFrom("a z", "b y", "x", "y", "z"), "x y z / a b", "")
	wantLevels(t, setFrom("a d", "b", "c", "d"), "b c d / a", "")
	// what is ready later, but has a lesser name, comes behind all of the rank ahead
	wantLevels(t, setFrom("a y", "b a", "x", "y", "z"), "x y z / a / b", "")
	// names are compared by their bytes
	wantLevels(t, setFrom("A", "B", "Z1", "Za", "a", "a1", "aB", "aa"), "A B Z1 Za a a1 aB aa", "")
	wantLevels(t, setFrom("B", "a B", "b", "bB b"), "B b / a bB", "")
}

func TestImportsOfAModule(t *testing.T) {
	list := setFrom("a c none b Zero", "b", "c b a9", "d d9 c9 d8 a b")
	wantImports(t, list, "a", "b c", "none Zero")
	wantImports(t, list, "b", "", "")
	wantImports(t, list, "c", "b", "a9")
	wantImports(t, list, "d", "a b", "d9 c9 d8")
	// in whichever order they stand: those of the set ascending, the others as they stand
	eachOrder(4, func(places []int) {
		names := make([]string, 4)
		var missing []string
		for i, at := range places {
			names[i] = []string{"b", "y", "c", "x"}[at]
			if at%2 == 1 {
				missing = append(missing, names[i])
			}
		}
		wantImports(t, setFrom("a "+listText(names), "b", "c", "d"), "a", "b c", listText(missing))
	})
	// a name that begins as another one is another one
	wantImports(t, setFrom("a ab b", "aa a aaa", "ab abc aa"), "a", "ab", "b")
	wantImports(t, setFrom("a ab b", "aa a aaa", "ab abc aa"), "aa", "a", "aaa")
	wantImports(t, setFrom("a ab b", "aa a aaa", "ab abc aa"), "ab", "aa", "abc")
	wantImports(t, setFrom("A a", "a B A", "b B"), "a", "A", "B")
	// only what is imported counts, not what is named
	named := []impl.Source{{Name: "a", Text: "# import b\nlet b = \"import c\"\nlet c = b"}, {Name: "b"}, {Name: "c"}}
	wantImports(t, named, "a", "", "")
	wantLevels(t, named, "a b c", "")
	// what is between words changes nothing
	blanks := []impl.Source{{Name: "a", Text: "  import\n\nb #import x\nimport c import n"}, {Name: "b", Text: "import c"}, {Name: "c"}}
	wantImports(t, blanks, "a", "b c", "n")
	wantLevels(t, blanks, "c / b / a", "")
	// a module that is wrong, but parsed, has its imports all the same
	wrong := []impl.Source{{Name: "a", Text: "import b\nimport n\nlet x: int = \"\" + y\nlet x = b.none"}, {Name: "b", Text: "type T = T\nlet v: U = 1"}}
	wantImports(t, wrong, "a", "b", "n")
	wantLevels(t, wrong, "b / a", "")
}

func TestSetsWithCircles(t *testing.T) {
	// itself
	wantLevels(t, setFrom("a a"), "a", "a")
	wantImports(t, setFrom("a a"), "a", "a", "")
	wantAbove(t, setFrom("a a"), "a", "a")
	wantLevels(t, setFrom("a a b", "b"), "a b", "a")
	wantLevels(t, setFrom("a", "b a b", "c b"), "a b / c", "b")
	wantAbove(t, setFrom("a", "b a b", "c b"), "a", "b c")
	wantAbove(t, setFrom("a", "b a b", "c b"), "b", "b c")
	wantAbove(t, setFrom("a", "b a b", "c b"), "c", "")
	// two, and more
	wantLevels(t, setFrom("a b", "b a"), "a b", "a b")
	wantLevels(t, setFrom("a b", "b c", "c a"), "a b c", "a b c")
	wantLevels(t, setFrom("a c", "b a", "c b", "d"), "a b c d", "a b c")
	// two circles apart, and one that imports of both
	two := setFrom("a b", "b a", "c", "d e", "e f", "f d", "g a e", "h g c")
	wantLevels(t, two, "a b c d e f / g / h", "a b d e f")
	wantAbove(t, two, "a", "a b g h")
	wantAbove(t, two, "f", "d e f g h")
	wantAbove(t, two, "c", "h")
	wantAbove(t, two, "g", "h")
	// two that have a module in common are one
	wantLevels(t, setFrom("a b", "b a c", "c b"), "a b c", "a b c")
	wantAbove(t, setFrom("a b", "b a c", "c b"), "c", "a b c")
	// one circle ahead of another one, and a module between them that is of none
	between := setFrom("a b", "b a c", "c d", "d e", "e d")
	wantLevels(t, between, "a b d e / c", "a b d e")
	wantAbove(t, between, "d", "a b c d e")
	wantAbove(t, between, "c", "a b")
	wantAbove(t, between, "a", "a b")
	// of a circle it is 0, whatever else is imported
	deep := setFrom("a", "b a", "c b d", "d c", "e d b", "f e")
	wantLevels(t, deep, "a c d / b / e / f", "c d")
	wantLevels(t, setFrom("a", "b a", "c b", "d c d", "e d"), "a d / b e / c", "d")
	wantAbove(t, deep, "a", "b c d e f")
	wantAbove(t, deep, "c", "c d e f")
	wantAbove(t, deep, "f", "")
}

func TestAboveAModule(t *testing.T) {
	list := setFrom("a b", "b c d", "c e", "d e n", "e", "f", "g f")
	for name, want := range map[string]string{"a": "", "b": "a", "c": "a b", "d": "a b", "e": "a b c d", "f": "g", "g": "", "n": "", "": ""} {
		wantAbove(t, list, name, want)
	}
	wantLevels(t, list, "e f / c d g / b / a", "")
}

func TestModulesWithMissingImports(t *testing.T) {
	list := setFrom("a n", "b a m", "c o n p", "d n c")
	wantLevels(t, list, "a c / b d", "")
	wantImports(t, list, "a", "", "n")
	wantImports(t, list, "b", "a", "m")
	wantImports(t, list, "c", "", "o n p")
	for _, name := range []string{"n", "m", "o", "p"} {
		wantNothingOf(t, list, name)
	}
	if got := impl.Rank(list, "c"); got != 0 {
		t.Error("without ImportsOf, with Missing:", got)
	}
}

// unparsed are texts of modules that import b and are not parsed.
func unparsed() []string {
	return []string{
		"import b\n!",
		"import b\nlet",
		"import b\nlet x = ",
		"import b\nimport",
		"import b\nimport ( c",
		"import b import let",
		"import b\nimport b",
		"import b\nimport c\nimport b",
		"import b.c",
		"let x = 1\nimport b",
		"import b\nlet x = 1\nimport c",
		"import b\nlet x = \"",
		"import b\ntype T = ()",
		"import b\nlet x = " + nestedExp(impl.MaxNest+1, "{a = ", "1", "}"),
		"import b\n" + strings.Repeat(" ", impl.MaxSource),
		"import b\n" + strings.Repeat("\n", greatestText-9),
		"import b\n\xff",
		"import abcdefghijklm\nimport b",
	}
}

func TestModulesThatAreNotParsed(t *testing.T) {
	for _, text := range unparsed() {
		list := []impl.Source{{Name: "a", Text: text}, {Name: "b", Text: "import a\nimport n"}, {Name: "c", Text: "import b"}}
		if _, line := impl.ParseModule(text); line == 0 {
			t.Fatalf("it is parsed: %q", text)
		}
		wantImports(t, list, "a", "", "")
		wantImports(t, list, "b", "a", "n")
		wantLevels(t, list, "a / b / c", "")
		wantAbove(t, list, "a", "b c")
		wantAbove(t, list, "b", "c")
		// what would import itself, were it parsed
		list = []impl.Source{{Name: "b", Text: text}}
		wantLevels(t, list, "b", "")
		wantAbove(t, list, "b", "")
	}
	// just within what is parsed
	for _, text := range []string{
		"import b\n" + strings.Repeat(" ", impl.MaxSource-9),
		"import b\nlet x = " + nestedExp(impl.MaxNest, "{a = ", "1", "}"),
		"import b",
	} {
		list := []impl.Source{{Name: "a", Text: text}, {Name: "b", Text: ""}}
		wantImports(t, list, "a", "b", "")
		wantLevels(t, list, "b / a", "")
	}
}

func TestModulesOfManyImports(t *testing.T) {
	// as many as a module may have, of which each third one is in the set
	var names, missing []string
	var within []impl.Source
	text := ""
	for i := range impl.MaxImports {
		name := "n" + strconv.Itoa(10+i)
		names = append(names, name)
		if i%3 == 0 {
			within = append(within, impl.Source{Name: name})
		} else {
			missing = append(missing, name)
		}
	}
	for _, name := range names {
		text = "import " + name + "\n" + text
	}
	list := append([]impl.Source{{Name: "a", Text: text}}, within...)
	slices.Reverse(missing)
	var ascending []string
	for _, s := range within {
		ascending = append(ascending, s.Name)
	}
	wantImports(t, list, "a", listText(ascending), listText(missing))
	wantLevels(t, list, listText(ascending)+" / a", "")
	list[0].Text += "import more\n"
	wantImports(t, list, "a", "", "")
	wantLevels(t, list, "a "+listText(ascending), "")
}

func TestNoModules(t *testing.T) {
	for _, list := range [][]impl.Source{nil, {}} {
		if !impl.SetOk(list) {
			t.Error("not SetOk: no modules")
		}
		if len(impl.Circles(list))+len(impl.Order(list))+len(impl.Levels(list)) > 0 {
			t.Error("something of no modules")
		}
		for _, name := range []string{"a", "", "let"} {
			wantNothingOf(t, list, name)
		}
	}
}

// rowOf are modules of which each imports the one ahead of it, and the last one what is told.
func rowOf(count int, last string) []impl.Source {
	var modules []string
	for i := range count {
		name := "n" + strconv.Itoa(10+i)
		if i > 0 {
			name += " n" + strconv.Itoa(9+i)
		}
		modules = append(modules, name)
	}
	modules[count-1] += " " + last
	return setFrom(modules...)
}

func TestSetsAtMaxModules(t *testing.T) {
	list := rowOf(impl.MaxModules, "")
	var names []string
	for i, s := range list {
		names = append(names, s.Name)
		if got := impl.Rank(list, s.Name); got != i {
			t.Error(s.Name, got)
		}
	}
	wantLevels(t, list, strings.Join(names, " / "), "")
	wantAbove(t, list, names[0], listText(names[1:]))
	wantNoSet(t, "one more than MaxModules", rowOf(impl.MaxModules+1, ""))
	wantNoSet(t, "many modules", rowOf(80, ""))
	wantNoSet(t, "very many modules", make([]impl.Source, 1000000))
	// all in one circle, and all but the first one
	circle := rowOf(impl.MaxModules, "n11")
	circle[0].Text = "import n29"
	wantLevels(t, circle, listText(names), listText(names))
	circle = rowOf(impl.MaxModules, "")
	circle[1].Text = "import n10\nimport n29"
	wantLevels(t, circle, listText(names), listText(names[1:]))
	wantAbove(t, circle, "n10", listText(names[1:]))
	wantAbove(t, circle, "n29", listText(names[1:]))
	// each imports all: very many ways lead back
	for i := range circle {
		circle[i].Text = "import " + strings.Join(names, " import ")
	}
	wantLevels(t, circle, listText(names), listText(names))
	// each imports all ahead of it: very many ways lead to the first one
	for i := range circle {
		circle[i].Text = ""
		for _, name := range names[:i] {
			circle[i].Text += "import " + name + "\n"
		}
	}
	wantLevels(t, circle, strings.Join(names, " / "), "")
	wantNoSet(t, "one circle of more than MaxModules", rowOf(impl.MaxModules+1, "n10"))
}

func TestTextsAtTheirBound(t *testing.T) {
	whole := strings.Repeat("#", greatestText)
	for _, list := range [][]impl.Source{
		{{Name: "a", Text: whole}},
		{{Name: "a", Text: "import b"}, {Name: "b", Text: whole}},
		{{Name: "a", Text: whole}, {Name: "b", Text: whole}, {Name: "c", Text: strings.Repeat("\xff", greatestText)}},
	} {
		if !impl.SetOk(list) {
			t.Error("not SetOk: a text at its bound")
		}
		for at := range list {
			longer := slices.Clone(list)
			longer[at].Text = whole + " "
			wantNoSet(t, "a text that is too long", longer)
			longer[at].Text = strings.Repeat("\n", 10000000)
			wantNoSet(t, "a text that is far too long", longer)
		}
	}
	wantLevels(t, []impl.Source{{Name: "a", Text: "import b"}, {Name: "b", Text: whole}}, "b / a", "")
}

func TestWrongSets(t *testing.T) {
	for what, list := range map[string][]impl.Source{
		"out of order":                     setFrom("b", "a b"),
		"out of order at the end":          setFrom("a", "b a", "d", "c"),
		"out of order at the beginning":    setFrom("b", "a", "c b", "d"),
		"a great letter behind a small":    setFrom("a", "B"),
		"one name twice":                   setFrom("a", "a"),
		"one name twice among others":      setFrom("a", "b", "b a", "c"),
		"one name twice, not side by side": setFrom("a", "b", "a"),
		"one source twice":                 setFrom("a b", "b", "b"),
		"a longer name ahead":              setFrom("ab", "a"),
		"a name of 13 bytes":               setFrom("a abcdefghijklm", "abcdefghijklm"),
		"a name with a dot":                setFrom("a", "a.b"),
		"a name that begins with a digit":  setFrom("1", "a"),
		"no name":                          {{Text: "let x = 1"}},
		"no name ahead of one":             {{}, {Name: "a"}},
		"a name with a blank":              {{Name: "a "}},
		"a name with another letter":       {{Name: "a"}, {Name: "\u00e9"}},
		"a name with another byte":         {{Name: "a"}, {Name: "a\xff"}},
		"a circle with a wrong name":       setFrom("a let", "let a"),
	} {
		wantNoSet(t, what, list)
	}
	for _, name := range append(slices.Clone(languageWords), wrongNames...) {
		wantNoSet(t, strconv.Quote(name), []impl.Source{{Name: name, Text: "import a"}})
		list := []impl.Source{{Name: "a"}, {Name: name, Text: "import a"}, {Name: "b", Text: "import a"}}
		slices.SortFunc(list, func(x, y impl.Source) int { return strings.Compare(x.Name, y.Name) })
		wantNoSet(t, strconv.Quote(name), list)
	}
	wantLevels(t, setFrom("abcdefghijkl", "b abcdefghijkl"), "abcdefghijkl / b", "")
}

func TestNamesThatAreNotInTheSet(t *testing.T) {
	list := setFrom("a b n", "b n", "c c", "d e", "e d")
	for _, name := range append(slices.Clone(languageWords), wrongNames...) {
		wantNothingOf(t, list, name)
	}
	for _, name := range []string{"n", "A", "B", "aa", "ab", "f", "Z", "z", "a\x00", "a\n", " b", strings.Repeat("a", 1000000)} {
		wantNothingOf(t, list, name)
	}
}
