package tests

import (
	"reflect"
	"slices"
	"strings"
	"testing"

	"loop.example/g00276/impl"
)

func envByWords(env []impl.Named) bool {
	for i, n := range env {
		parts := strings.Split(n.Name, ".")
		if len(parts) > 2 || slices.ContainsFunc(parts, func(s string) bool { return !impl.NameOk(s) }) || !okByWords(n.Type, 0) {
			return false
		}
		if i > 0 && env[i-1].Name >= n.Name {
			return false
		}
	}
	return len(env) <= 60
}

func lookupByWords(env []impl.Named, name string) (impl.Type, bool) {
	for _, n := range env {
		if n.Name == name {
			return n.Type, true
		}
	}
	return impl.Type{}, false
}

// behindByWords are the names that one comes to from a type by names and kids of unions alone, in one step.
func behindByWords(t impl.Type) []string {
	switch t.Kind {
	case impl.TyName:
		return []string{t.Name}
	case impl.TyUnion:
		var names []string
		for _, kid := range t.Kids {
			names = append(names, behindByWords(kid)...)
		}
		return names
	}
	return nil
}

// comesTo are all names to which one comes from a name by one step or more.
func comesTo(env []impl.Named, name string) []string {
	t, _ := lookupByWords(env, name)
	names := behindByWords(t)
	for at := 0; at < len(names); at++ {
		next, _ := lookupByWords(env, names[at])
		for _, other := range behindByWords(next) {
			if !slices.Contains(names, other) {
				names = append(names, other)
			}
		}
	}
	return names
}

func loopsByWords(env []impl.Named, name string) bool {
	for _, n := range append(comesTo(env, name), name) {
		if _, ok := lookupByWords(env, n); !ok || slices.Contains(comesTo(env, n), n) {
			return true
		}
	}
	return false
}

func openByWords(env []impl.Named, t impl.Type) impl.Type {
	switch t.Kind {
	case impl.TyName:
		if loopsByWords(env, t.Name) {
			return anyT
		}
		next, _ := lookupByWords(env, t.Name)
		return openByWords(env, next)
	case impl.TyUnion:
		var kids []impl.Type
		for _, kid := range t.Kids {
			kids = append(kids, openByWords(env, kid))
		}
		if u, ok := unionByWords(kids); ok {
			return u
		}
		return anyT
	}
	return t
}

// fitting is what the document says of Fits as it stands there: each pair is held against its sentences with
// what is still said to fit, and all of them again as long as one falls.
type fitting struct {
	env   []impl.Named
	opens map[string]impl.Type
	types map[[2]string][2]impl.Type
	holds map[[2]string]bool
}

func (f *fitting) open(t impl.Type) impl.Type {
	text := textByWords(t)
	if _, ok := f.opens[text]; !ok {
		f.opens[text] = openByWords(f.env, t)
	}
	return f.opens[text]
}

func pairTexts(a, b impl.Type) [2]string {
	return [2]string{textByWords(a), textByWords(b)}
}

func (f *fitting) gather(a, b impl.Type) {
	key := pairTexts(a, b)
	if f.holds[key] {
		return
	}
	f.types[key], f.holds[key] = [2]impl.Type{a, b}, true
	f.fits(a, b, func(a, b impl.Type) bool {
		f.gather(a, b)
		return true
	})
	// a yes for one kid of a union ends that sentence, so the others are gathered by a no for each
	f.fits(a, b, func(a, b impl.Type) bool {
		f.gather(a, b)
		return false
	})
}

func (f *fitting) fits(a, b impl.Type, ask func(a, b impl.Type) bool) bool {
	a, b = f.open(a), f.open(b)
	if a.Kind == impl.TyAny || b.Kind == impl.TyAny {
		return true
	}
	if a.Kind == impl.TyUnion {
		return !slices.ContainsFunc(a.Kids, func(kid impl.Type) bool { return !ask(kid, b) })
	}
	if b.Kind == impl.TyUnion {
		return slices.ContainsFunc(b.Kids, func(kid impl.Type) bool { return ask(a, kid) })
	}
	if a.Kind != b.Kind {
		return false
	}
	switch a.Kind {
	case impl.TyRecord:
		for i, name := range b.Names {
			at := slices.Index(a.Names, name)
			if at < 0 || !ask(a.Kids[at], b.Kids[i]) {
				return false
			}
		}
	case impl.TyFn:
		last := len(a.Kids) - 1
		if len(b.Kids)-1 != last {
			return false
		}
		for i := range last {
			if !ask(b.Kids[i], a.Kids[i]) {
				return false
			}
		}
		return ask(a.Kids[last], b.Kids[last])
	}
	return true
}

// fitsByWords tells of each two of some types whether one fits the other; nothing does where something is wrong.
func fitsByWords(env []impl.Named, types []impl.Type) map[[2]string]bool {
	f := &fitting{env, map[string]impl.Type{}, map[[2]string][2]impl.Type{}, map[[2]string]bool{}}
	if !envByWords(env) {
		return f.holds
	}
	for _, a := range types {
		for _, b := range types {
			if okByWords(a, 0) && okByWords(b, 0) {
				f.gather(a, b)
			}
		}
	}
	for fell := true; fell; {
		fell = false
		for key, pair := range f.types {
			if f.holds[key] && !f.fits(pair[0], pair[1], func(a, b impl.Type) bool { return f.holds[pairTexts(a, b)] }) {
				f.holds[key], fell = false, true
			}
		}
	}
	return f.holds
}

func fieldByWords(env []impl.Named, t impl.Type, name string) (impl.Type, bool) {
	if !envByWords(env) || !okByWords(t, 0) {
		return impl.Type{}, false
	}
	t = openByWords(env, t)
	switch t.Kind {
	case impl.TyAny:
		return anyT, true
	case impl.TyRecord:
		if at := slices.Index(t.Names, name); at >= 0 {
			return t.Kids[at], true
		}
	case impl.TyUnion:
		var list []impl.Type
		for _, kid := range t.Kids {
			x, ok := fieldByWords(env, kid, name)
			if !ok {
				return impl.Type{}, false
			}
			list = append(list, x)
		}
		return unionByWords(list)
	}
	return impl.Type{}, false
}

func reachByWords(env []impl.Named, t impl.Type) []string {
	names := namesByWords(t)
	for at := 0; at < len(names); at++ {
		next, _ := lookupByWords(env, names[at])
		for _, other := range namesByWords(next) {
			if !slices.Contains(names, other) {
				names = append(names, other)
			}
		}
	}
	slices.Sort(names)
	return names
}

// An envMaker makes environments of few names, so that types lead back to themselves and to each other often.
type envMaker struct {
	typeMaker
	names []string
	any   bool
}

func (m *envMaker) pick(list []impl.Type) impl.Type {
	return list[m.next(len(list))]
}

func (m *envMaker) shape(room int) impl.Type {
	if room == 0 {
		room = 1
	}
	switch m.next(4) {
	case 0, 1:
		var names []string
		var kids []impl.Type
		for _, name := range []string{"a", "b", "c"} {
			if m.next(2) == 0 {
				names = append(names, name)
				kids = append(kids, m.one(room-1))
			}
		}
		return impl.Type{Kind: impl.TyRecord, Names: names, Kids: kids}
	case 2:
		kids := listT(m.one(room - 1))
		for range m.next(3) {
			kids = append(kids, m.one(room-1))
		}
		return impl.Type{Kind: impl.TyFn, Kids: kids}
	}
	return m.pick(listT(intT, textT, boolT))
}

func (m *envMaker) one(room int) impl.Type {
	if m.any && m.next(25) == 0 {
		return anyT
	}
	switch way := m.next(7); {
	case way == 0 || room == 0 && way < 3:
		return m.pick(listT(intT, textT, boolT, recordT("")))
	case way < 4 || room == 0:
		return nameT(m.names[m.next(len(m.names))])
	case way == 4:
		u, ok := unionByWords(listT(m.one(room-1), m.one(room-1), m.one(room-1)))
		if !ok {
			return intT
		}
		return u
	}
	return m.shape(room)
}

func (m *envMaker) env() []impl.Named {
	var env []impl.Named
	for _, name := range m.names {
		x := m.shape(2)
		switch m.next(4) {
		case 0:
			x = m.one(2)
		case 1:
			if u, ok := unionByWords(listT(x, m.one(1))); ok {
				x = u
			}
		}
		env = append(env, impl.Named{Name: name, Type: x})
	}
	return env
}

func sameAsByWordsOfEnv(t *testing.T, env []impl.Named, types []impl.Type, names []string) (yes, no int) {
	t.Helper()
	if impl.EnvOk(env) != envByWords(env) {
		t.Fatalf("EnvOk of %v", env)
	}
	for _, name := range names {
		got, ok := impl.Lookup(env, name)
		if want, wantOk := lookupByWords(env, name); ok != wantOk || !sameType(got, want) {
			t.Fatalf("Lookup of %q in %v = %v, %v", name, env, got, ok)
		}
		if impl.Loops(env, name) != loopsByWords(env, name) {
			t.Fatalf("Loops of %q in %v", name, env)
		}
	}
	fits := fitsByWords(env, types)
	for _, a := range types {
		if got, want := impl.Open(env, a), openByWords(env, a); !sameType(got, want) {
			t.Fatalf("Open of %v in %v = %v, want %v", a, env, got, want)
		}
		if got, want := impl.Reach(env, a), reachByWords(env, a); !slices.Equal(got, want) {
			t.Fatalf("Reach of %v in %v = %q, want %q", a, env, got, want)
		}
		for _, field := range []string{"a", "b", "", "nope"} {
			got, ok := impl.FieldOf(env, a, field)
			if want, wantOk := fieldByWords(env, a, field); ok != wantOk || !sameType(got, want) {
				t.Fatalf("FieldOf %v at %q in %v = %v, %v, want %v, %v", a, field, env, got, ok, want, wantOk)
			}
		}
		for _, b := range types {
			// what is no type may have the text of one
			right := okByWords(a, 0) && okByWords(b, 0)
			want := right && fits[pairTexts(a, b)]
			if impl.Fits(env, a, b) != want {
				t.Fatalf("Fits of %s to %s in %v = %v", impl.TypeText(a), impl.TypeText(b), env, !want)
			}
			if both := want && fits[pairTexts(b, a)]; impl.Both(env, a, b) != both {
				t.Fatalf("Both of %s and %s in %v = %v", impl.TypeText(a), impl.TypeText(b), env, !both)
			}
			if want {
				yes++
			} else {
				no++
			}
		}
	}
	return yes, no
}

func madeEnv(bytes []byte, any bool) (*envMaker, []impl.Named) {
	m := &envMaker{typeMaker: typeMaker{bytes: bytes}, names: []string{"A", "B", "C", "m.A", "m.B"}, any: any}
	return m, m.env()
}

func TestFitsAsTheDocumentsWordsTell(t *testing.T) {
	yes, no := 0, 0
	for seed := range uint64(700) {
		m, env := madeEnv(someBytes(seed, 2000), true)
		names := append(slices.Clone(m.names), "nowhere", "")
		if seed%3 == 0 {
			m.names = append(m.names, "nowhere")
		}
		types := listT(nameT("A"), nameT("m.B"))
		for range 4 {
			types = append(types, m.one(3))
		}
		y, n := sameAsByWordsOfEnv(t, env, types, names)
		yes, no = yes+y, no+n
	}
	if yes < 2000 || no < 2000 {
		t.Error("the test's pairs are of one sort:", yes, no)
	}
}

// Types that differ in little, among which many a pair fits only for what was begun ahead of it.
func TestFitsOfTypesThatAreNearlyAlike(t *testing.T) {
	yes, no := 0, 0
	for seed := range uint64(400) {
		m := &typeMaker{bytes: someBytes(seed+90000, 600)}
		names := []string{"A", "B", "C", "D"}
		name := func() impl.Type { return nameT(names[m.next(4)]) }
		var env []impl.Named
		for _, n := range names {
			v := listT(intT, intT, textT, unionT(intT, textT))[m.next(4)]
			x := recordT("n v", name(), v)
			if m.next(3) == 0 {
				x = recordT("n o v", name(), name(), v)
			}
			if m.next(2) == 0 {
				next, _ := unionByWords(listT(name(), x, recordT("n", name())))
				x = recordT("n v", next, v)
			}
			if m.next(4) == 0 {
				x, _ = unionByWords(listT(x, recordT("n", name())))
			}
			if m.next(4) == 0 {
				x = recordT("n v", fnT(name(), name()), v)
			}
			env = append(env, impl.Named{Name: n, Type: x})
		}
		y, n := sameAsByWordsOfEnv(t, env, listT(nameT("A"), nameT("B"), nameT("C"), nameT("D"), recordT("n v", nameT("A"), intT), unionT(nameT("C"), recordT("n", nameT("B")))), names)
		yes, no = yes+y, no+n
	}
	if yes < 2500 || no < 2500 {
		t.Error("the test's pairs are of one sort:", yes, no)
	}
}

func TestWhatIsNoEnvironmentAsTheDocumentsWordsTell(t *testing.T) {
	for seed := range uint64(200) {
		m, env := madeEnv(someBytes(seed+50000, 1500), true)
		switch seed % 5 {
		case 0:
			slices.Reverse(env)
		case 1:
			env = append(env, env[m.next(len(env))])
		case 2:
			env[m.next(len(env))].Name = someNames[6+m.next(3)]
		case 3:
			env[m.next(len(env))].Type = fnT(unionT(textT, intT))
		case 4:
			env = append(env, numbered(impl.MaxDefs, intT)...)
		}
		if impl.EnvOk(env) {
			t.Fatal("the test's own environment is one")
		}
		sameAsByWordsOfEnv(t, env, listT(m.one(2), m.one(2), nameT("B")), append(slices.Clone(m.names), "", "let"))
	}
}

func TestEachTypeFitsItselfAndAny(t *testing.T) {
	envs := [][]impl.Named{nil}
	for seed := range uint64(60) {
		_, env := madeEnv(someBytes(seed+300, 1500), true)
		envs = append(envs, env)
	}
	for at, env := range envs {
		m := &envMaker{typeMaker: typeMaker{bytes: someBytes(uint64(at), 1500)}, names: []string{"A", "B", "C", "m.A", "m.B", "nowhere"}, any: true}
		types := listT(m.one(3), m.one(3), m.shape(3), m.shape(3), nameT("A"), nameT("nowhere"))
		for _, n := range env {
			types = append(types, n.Type, nameT(n.Name))
		}
		for _, c := range rightTypes {
			types = append(types, c.t)
		}
		for _, x := range types {
			wantLawsOfOne(t, env, x)
		}
	}
}

func wantLawsOfOne(t *testing.T, env []impl.Named, x impl.Type) {
	t.Helper()
	open := impl.Open(env, x)
	for what, ok := range map[string]bool{
		"itself":        impl.Fits(env, x, x),
		"any":           impl.Fits(env, x, anyT),
		"where any is":  impl.Fits(env, anyT, x),
		"what it opens": impl.Both(env, x, open),
		"both":          impl.Both(env, x, x),
	} {
		if !ok {
			t.Errorf("%s does not fit %s in %v", impl.TypeText(x), what, env)
		}
	}
	for _, y := range listT(intT, recordT("z", textT), fnT(boolT), nameT("A"), anyT) {
		if u, ok := impl.Union(listT(x, y)); ok && !(impl.Fits(env, x, u) && impl.Fits(env, y, u)) {
			t.Errorf("%s or %s does not fit their union in %v", impl.TypeText(x), impl.TypeText(y), env)
		}
	}
	if open.Kind != impl.TyRecord {
		return
	}
	for i := range open.Names {
		fewer := impl.Type{Kind: impl.TyRecord, Names: slices.Delete(slices.Clone(open.Names), i, i+1), Kids: slices.Delete(slices.Clone(open.Kids), i, i+1)}
		if !impl.Fits(env, x, fewer) || impl.Fits(env, fewer, x) {
			t.Errorf("%s and the one without %s in %v", impl.TypeText(x), open.Names[i], env)
		}
	}
}

// isToldWithoutAny tells whether no type that one comes to is any, nor opens to it.
func isToldWithoutAny(env []impl.Named, types []impl.Type) bool {
	for _, x := range types {
		if impl.HasAny(x) || impl.Open(env, x).Kind == impl.TyAny {
			return false
		}
		for _, name := range impl.Reach(env, x) {
			of, ok := impl.Lookup(env, name)
			if !ok || impl.HasAny(of) || impl.Loops(env, name) {
				return false
			}
		}
	}
	return true
}

func TestWithoutAnyWhatFitsFitsOn(t *testing.T) {
	used, ways := 0, 0
	for seed := range uint64(100) {
		m, env := madeEnv(someBytes(seed+7000, 2500), false)
		types := listT(nameT("A"), nameT("B"), nameT("m.A"), m.one(2), m.shape(2), m.shape(2))
		for _, x := range types[:3] {
			open := impl.Open(env, x)
			types = append(types, open)
			if u, ok := impl.Union(listT(open, m.one(1))); ok {
				types = append(types, u)
			}
		}
		if !impl.EnvOk(env) || !isToldWithoutAny(env, types) {
			continue
		}
		used++
		ways += wantLawsOfThree(t, env, types)
	}
	if used < 30 || ways < 2000 {
		t.Error("the test's types are of one sort:", used, ways)
	}
}

// wantLawsOfThree counts the ways on which one came from a type through another one to a third.
func wantLawsOfThree(t *testing.T, env []impl.Named, types []impl.Type) int {
	t.Helper()
	fits := make([][]bool, len(types))
	for i, a := range types {
		for _, b := range types {
			fits[i] = append(fits[i], impl.Fits(env, a, b))
		}
	}
	ways := 0
	for i, a := range types {
		for j, b := range types {
			u, ok := impl.Union(listT(a, b))
			ok = ok && i <= j
			for k, c := range types {
				if fits[i][j] && fits[j][k] {
					ways++
					if !fits[i][k] {
						t.Fatalf("%s, %s, %s in %v", impl.TypeText(a), impl.TypeText(b), impl.TypeText(c), env)
					}
				}
				if ok && (fits[k][i] || fits[k][j]) && !impl.Fits(env, c, u) {
					t.Fatalf("%s fits one of %s and %s, but not their union, in %v", impl.TypeText(c), impl.TypeText(a), impl.TypeText(b), env)
				}
				if ok && impl.Fits(env, u, c) != (fits[i][k] && fits[j][k]) {
					t.Fatalf("the union of %s and %s to %s in %v", impl.TypeText(a), impl.TypeText(b), impl.TypeText(c), env)
				}
			}
		}
	}
	return ways
}

// With any there is a way from each type to each.
func TestWithAnyWhatFitsNeedNotFitOn(t *testing.T) {
	wantFits(t, nil, "int", "any", "any", "text", "{a: int}", "{a: any}", "{a: any}", "{a: text}")
	wantFitsNot(t, nil, "int", "text", "{a: int}", "{a: text}")
}

func (m *memoryOf) addEnv(env []impl.Named) {
	env = env[:cap(env)]
	for i := range env {
		m.places[&env[i]]++
		m.texts = append(m.texts, env[i].Name)
		m.addType(env[i].Type)
	}
}

func roomyEnv(env []impl.Named) []impl.Named {
	out := make([]impl.Named, 0, len(env)+2)
	for _, n := range env {
		out = append(out, impl.Named{Name: strings.Clone(n.Name), Type: roomy(n.Type)})
	}
	out[:cap(out)][len(out)] = impl.Named{Name: "spare", Type: impl.Type{Kind: impl.TyText, Name: "spare"}}
	return out
}

func wholeEnv(env []impl.Named) []impl.Named {
	var out []impl.Named
	for _, n := range env[:cap(env)] {
		out = append(out, impl.Named{Name: n.Name, Type: wholeOf(n.Type)})
	}
	return out
}

func TestNothingIsWrittenIntoEnvironmentsAndAnswersAreNew(t *testing.T) {
	shared := recordT("x", nameT("A"))
	envs := [][]impl.Named{
		nil,
		rightEnv(t, "A = B | int", "B = {a: A, b: (B) -> C}", "C = bool | {a: text}", "D = D", "m.T = A | C | m.U", "m.U = {a: m.T | {x: int}}"),
		{{Name: "A", Type: fnT(shared, shared)}, {Name: "B", Type: shared}},
		{{Name: "B", Type: unionT(textT, intT)}, {Name: "A", Type: impl.Type{Kind: 9, Name: "x", Names: []string{"y"}, Kids: listT(shared, shared)}}, {Name: "A", Type: intT}},
	}
	types := listT(intT, nameT("A"), nameT("B"), nameT("m.U"), nameT("none"), unionT(textT, nameT("A")), unionT(nameT("A"), nameT("C"), recordT("a b", nameT("A"), intT)), recordT("a", unionT(nameT("A"), textT)), fnT(shared, shared))
	for _, c := range rightTypes {
		types = append(types, c.t, recordT("a", c.t))
	}
	for _, c := range wrongTypes {
		types = append(types, c.t, recordT("a", c.t))
	}
	for _, plainEnv := range envs {
		env := roomyEnv(plainEnv)
		envBefore := wholeEnv(env)
		for _, plain := range types {
			x := roomy(plain)
			before := wholeOf(x)
			given := newMemory()
			given.addType(x)
			given.addEnv(env)
			look := func(what string, add func(m *memoryOf)) {
				answer := newMemory()
				add(answer)
				wantNewMemory(t, what, answer, given)
				if !reflect.DeepEqual(wholeOf(x), before) || !reflect.DeepEqual(wholeEnv(env), envBefore) {
					t.Fatalf("%s wrote into %v or %v", what, plain, plainEnv)
				}
			}
			look("EnvOk", func(m *memoryOf) { impl.EnvOk(env) })
			look("Lookup", func(m *memoryOf) {
				got, _ := impl.Lookup(env, "A")
				m.addType(got)
			})
			look("Loops", func(m *memoryOf) { impl.Loops(env, "A") })
			look("Open", func(m *memoryOf) { m.addType(impl.Open(env, x)) })
			look("Fits", func(m *memoryOf) { impl.Fits(env, x, x); impl.Fits(env, x, nameT("B")); impl.Both(env, nameT("A"), x) })
			look("FieldOf", func(m *memoryOf) {
				got, _ := impl.FieldOf(env, x, "a")
				m.addType(got)
			})
			look("Reach", func(m *memoryOf) { m.addNames(impl.Reach(env, x)) })
		}
	}
}

// callAll calls each function of the chapter; it has to come back.
func callAll(env []impl.Named, a, b impl.Type, name string) {
	impl.EnvOk(env)
	impl.Lookup(env, name)
	impl.Loops(env, name)
	impl.Open(env, a)
	impl.Fits(env, a, b)
	impl.Both(env, b, a)
	impl.FieldOf(env, a, name)
	impl.Reach(env, a)
}

func TestAnyEnvironmentIsAnswered(t *testing.T) {
	types := append(listT(intT, anyT, nameT("A"), nameT(""), unionT(nameT("A"), nameT("B"))), withinItself()...)
	for _, x := range withinItself() {
		types = append(types, unionT(x, nameT("B")), unionT(unionT(x), x))
	}
	for _, c := range wrongTypes {
		types = append(types, c.t)
	}
	for i, x := range types {
		env := []impl.Named{{Name: "A", Type: x}, {Name: "B", Type: types[(i+1)%len(types)]}, {Name: "", Type: types[(i+7)%len(types)]}}
		for _, name := range []string{"A", "B", "", "none", "\xff", strings.Repeat("a", 10000)} {
			callAll(env, x, nameT("A"), name)
			callAll(env, nameT("B"), x, name)
			callAll(nil, x, x, name)
			callAll(env[:1], nameT(name), unionT(nameT("A"), nameT(name)), name)
		}
	}
}

// A union that holds one list very many times comes to an end, and one that is within itself is never told.
func TestUnionsWithinThemselvesAreNeverTold(t *testing.T) {
	union := withinItself()[1]
	env := []impl.Named{{Name: "A", Type: union}, {Name: "b", Type: intT}}
	if !impl.Loops(env, "A") || !sameType(impl.Open(env, nameT("A")), anyT) || !sameType(impl.Open(env, union), anyT) {
		t.Error("a union within itself is told")
	}
	doubled := deepened(unionT(intT, nameT("b")), 200, func(x impl.Type) impl.Type { return unionT(x, x) })
	if got := impl.Open(env, doubled); !sameType(got, intT) {
		t.Error("a union of one list very many times", got.Kind)
	}
	many := chain(100000, textT)
	if impl.Loops(many, "n1000") || !sameType(impl.Open(many, nameT("n1000")), textT) {
		t.Error("a very long way of names")
	}
}

func TestListsOfWhatIsFoundAreItsOwn(t *testing.T) {
	for _, kind := range []int{impl.TyRecord, 99} {
		x := manyShared(kind)
		env := []impl.Named{{Name: "a", Type: x}}
		got, _ := impl.Lookup(env, "a")
		wantOwnLists(t, "Lookup", got, x)
		wantOwnLists(t, "Open", impl.Open(env, nameT("a")), x)
		wantOwnLists(t, "Open of itself", impl.Open(env, x), x)
	}
	x := manyShared(impl.TyRecord)
	got, _ := impl.FieldOf(nil, recordT("a", x), "a")
	wantOwnLists(t, "FieldOf", got, x)
}

func TestTypesThatNoMemoryHoldsFit(t *testing.T) {
	env := rightEnv(t, "A = B | text", "B = int")
	great := func(text string) impl.Type { return greatType(typeFrom(t, text), impl.MaxDeep-1) }
	a, b, c, any := great("int"), great("int | text"), great("A"), great("any")
	if !impl.Fits(env, a, a) || !impl.Fits(env, a, b) || impl.Fits(env, b, a) || !impl.Both(env, b, c) || !impl.Both(env, c, any) || !impl.Fits(env, a, c) || impl.Fits(env, a, great("text")) {
		t.Error("great types")
	}
	if !impl.Fits(env, fnT(c, a), fnT(a, c)) || impl.Fits(env, fnT(a, a), fnT(c, c)) {
		t.Error("functions of great types")
	}
	field, ok := impl.FieldOf(env, c, "j")
	if !ok {
		t.Fatal("no field of a great type")
	}
	wantGreat(t, "FieldOf", field, nameT("A"), impl.MaxDeep-2)
	wantGreat(t, "Open", impl.Open(env, c), nameT("A"), impl.MaxDeep-1)
	wantReach(t, env, c, "A", "B")
	env = append(env, impl.Named{Name: "C", Type: c}, impl.Named{Name: "D", Type: unionT(nameT("C"), nameT("E"))}, impl.Named{Name: "E", Type: a})
	if !impl.EnvOk(env) || impl.Loops(env, "D") || !impl.Fits(env, nameT("E"), nameT("C")) || !impl.Both(env, nameT("D"), nameT("C")) || len(impl.Open(env, nameT("D")).Kids) != 2 {
		t.Error("great types by their names")
	}
	got, _ := impl.Lookup(env, "C")
	wantGreat(t, "Lookup", got, nameT("A"), impl.MaxDeep-1)
}

func TestGreatUnionsFit(t *testing.T) {
	var less, more []impl.Type
	for _, n := range numbered(1500, intT) {
		less = append(less, recordT("x", recordT(n.Name, intT)))
		more = append(more, recordT("x", recordT(n.Name, intT)), recordT("x", recordT(n.Name, textT)))
	}
	a, _ := impl.Union(less)
	b, _ := impl.Union(more)
	if !impl.Fits(nil, a, b) || impl.Fits(nil, b, a) || !impl.Both(nil, a, a) {
		t.Error("great unions")
	}
	c, _ := impl.Union(less[:300])
	d, _ := impl.Union(more[600:1200])
	if impl.Fits(nil, c, d) || !impl.Fits(nil, c, a) {
		t.Error("great unions of which none fits")
	}
}

func FuzzFits(f *testing.F) {
	for seed := range uint64(10) {
		f.Add(someBytes(seed, 300), "A")
	}
	f.Add([]byte{}, "")
	f.Fuzz(func(t *testing.T, bytes []byte, name string) {
		m, env := madeEnv(bytes[:min(len(bytes), 600)], true)
		sameAsByWordsOfEnv(t, env, listT(m.one(3), m.one(2), nameT("A"), nameT(name)), append(slices.Clone(m.names), name))
	})
}
