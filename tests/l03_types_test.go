package tests

import (
	"math"
	"reflect"
	"slices"
	"strconv"
	"strings"
	"testing"

	"loop.example/g00276/impl"
)

var (
	intT  = impl.Type{Kind: impl.TyInt}
	textT = impl.Type{Kind: impl.TyText}
	boolT = impl.Type{Kind: impl.TyBool}
	anyT  = impl.Type{Kind: impl.TyAny}
)

func nameT(s string) impl.Type            { return impl.Type{Kind: impl.TyName, Name: s} }
func fnT(kids ...impl.Type) impl.Type     { return impl.Type{Kind: impl.TyFn, Kids: kids} }
func listT(kids ...impl.Type) []impl.Type { return kids }

// unionT and recordT put together what they are given as it stands, right or wrong.
func unionT(kids ...impl.Type) impl.Type { return impl.Type{Kind: impl.TyUnion, Kids: kids} }
func recordT(names string, kids ...impl.Type) impl.Type {
	return impl.Type{Kind: impl.TyRecord, Names: strings.Fields(names), Kids: kids}
}

// rightTypes are types with their texts.
var rightTypes = []struct {
	t    impl.Type
	text string
}{
	{intT, "int"},
	{textT, "text"},
	{boolT, "bool"},
	{anyT, "any"},
	{impl.Type{Kind: impl.TyBool, Names: []string{}, Kids: []impl.Type{}}, "bool"},
	{nameT("T"), "T"},
	{nameT("m.T"), "m.T"},
	{nameT("a"), "a"},
	{nameT("ints"), "ints"},
	{nameT("abcdefghijkl"), "abcdefghijkl"},
	{nameT("abcdefghijkl.ABCDEFGHIJKL"), "abcdefghijkl.ABCDEFGHIJKL"},
	{recordT(""), "{}"},
	{impl.Type{Kind: impl.TyRecord, Names: []string{}, Kids: []impl.Type{}}, "{}"},
	{recordT("a", intT), "{a: int}"},
	{recordT("a b", anyT, nameT("m.T")), "{a: any, b: m.T}"},
	{recordT("A Z a ab b", intT, intT, intT, intT, intT), "{A: int, Z: int, a: int, ab: int, b: int}"},
	{recordT("a b", recordT(""), recordT("a", recordT(""))), "{a: {}, b: {a: {}}}"},
	{recordT("f u", fnT(intT), unionT(intT, textT)), "{f: () -> int, u: int | text}"},
	{fnT(intT), "() -> int"},
	{fnT(anyT), "() -> any"},
	{fnT(intT, textT), "(int) -> text"},
	{fnT(intT, intT, intT), "(int, int) -> int"},
	{fnT(anyT, recordT(""), nameT("T"), boolT), "(any, {}, T) -> bool"},
	{fnT(fnT(intT)), "() -> () -> int"},
	{fnT(intT, fnT(textT, boolT)), "(int) -> (text) -> bool"},
	{fnT(fnT(intT, textT), boolT), "((int) -> text) -> bool"},
	{fnT(unionT(intT, textT)), "() -> (int | text)"},
	{fnT(unionT(intT, textT), boolT), "(int | text) -> bool"},
	{fnT(unionT(intT, textT), unionT(boolT, intT)), "(int | text) -> (bool | int)"},
	{fnT(fnT(unionT(intT, textT))), "() -> () -> (int | text)"},
	{unionT(intT, textT), "int | text"},
	{unionT(boolT, intT, textT), "bool | int | text"},
	{unionT(fnT(intT), textT), "(() -> int) | text"},
	{unionT(fnT(anyT), fnT(anyT, intT)), "(() -> any) | ((any) -> int)"},
	{unionT(fnT(unionT(intT, textT)), intT), "(() -> (int | text)) | int"},
	{unionT(fnT(fnT(intT)), fnT(intT)), "(() -> () -> int) | (() -> int)"},
	{unionT(nameT("T"), nameT("a"), nameT("a.T"), intT, recordT("a", unionT(intT, textT)), recordT("")), "T | a | a.T | int | {a: int | text} | {}"},
}

// wrongTypes are of each way to be none.
var wrongTypes = []struct {
	what string
	t    impl.Type
}{
	{"a kind below 0", impl.Type{Kind: -1}},
	{"the least kind", impl.Type{Kind: math.MinInt}},
	{"a kind above TyUnion", impl.Type{Kind: impl.TyUnion + 1}},
	{"the greatest kind", impl.Type{Kind: math.MaxInt}},
	{"a kind above TyUnion, with kids", impl.Type{Kind: 8, Kids: listT(intT, textT)}},
	{"a kind below 0, with a name", impl.Type{Kind: -1, Name: "a"}},
	{"an int with a Name", impl.Type{Kind: impl.TyInt, Name: "x"}},
	{"a text with a Name", impl.Type{Kind: impl.TyText, Name: "x"}},
	{"a bool with a Name", impl.Type{Kind: impl.TyBool, Name: "x"}},
	{"any with a Name", impl.Type{Kind: impl.TyAny, Name: "x"}},
	{"a record with a Name", impl.Type{Kind: impl.TyRecord, Name: "x"}},
	{"a record of fields with a Name", impl.Type{Kind: impl.TyRecord, Name: "x", Names: []string{"a"}, Kids: listT(intT)}},
	{"a function with a Name", impl.Type{Kind: impl.TyFn, Name: "x", Kids: listT(intT)}},
	{"a union with a Name", impl.Type{Kind: impl.TyUnion, Name: "x", Kids: listT(intT, textT)}},
	{"an int with Names", impl.Type{Kind: impl.TyInt, Names: []string{"a"}}},
	{"a text with Names", impl.Type{Kind: impl.TyText, Names: []string{"a"}}},
	{"a bool with an empty name for Names", impl.Type{Kind: impl.TyBool, Names: []string{""}}},
	{"any with Names", impl.Type{Kind: impl.TyAny, Names: []string{"a"}}},
	{"a name with Names", impl.Type{Kind: impl.TyName, Name: "T", Names: []string{"a"}}},
	{"a function with Names", impl.Type{Kind: impl.TyFn, Names: []string{"a"}, Kids: listT(intT)}},
	{"a union with Names", impl.Type{Kind: impl.TyUnion, Names: []string{"a", "b"}, Kids: listT(intT, textT)}},
	{"an int with kids", impl.Type{Kind: impl.TyInt, Kids: listT(intT)}},
	{"a text with kids", impl.Type{Kind: impl.TyText, Kids: listT(intT)}},
	{"a bool with kids", impl.Type{Kind: impl.TyBool, Kids: listT(intT)}},
	{"any with kids", impl.Type{Kind: impl.TyAny, Kids: listT(intT)}},
	{"a name with kids", impl.Type{Kind: impl.TyName, Name: "T", Kids: listT(intT)}},
	{"a name with Names and kids", impl.Type{Kind: impl.TyName, Name: "T", Names: []string{"a"}, Kids: listT(intT)}},
	{"a record of more names", recordT("a b", intT)},
	{"a record of more kids", recordT("a", intT, intT)},
	{"a record of names alone", recordT("a")},
	{"a record of kids alone", recordT("", intT)},
	{"a record of Names that descend", recordT("b a", intT, intT)},
	{"a record of Names of which two are alike", recordT("a a", intT, intT)},
	{"a record of Names of which the last ones descend", recordT("a c b", intT, intT, intT)},
	{"a record with small ahead of great letters", recordT("a B", intT, intT)},
	{"a record of a word of the language", recordT("in", intT)},
	{"a record of a name with a dot", recordT("a.b", intT)},
	{"a record of a digit", recordT("1", intT)},
	{"a record of 13 letters", recordT("abcdefghijklm", intT)},
	{"a record of an empty name", impl.Type{Kind: impl.TyRecord, Names: []string{""}, Kids: listT(intT)}},
	{"a record of a name with a blank", impl.Type{Kind: impl.TyRecord, Names: []string{"a "}, Kids: listT(intT)}},
	{"a function without kids", fnT()},
	{"a union without kids", unionT()},
	{"a union of one kid", unionT(intT)},
	{"a union of one function", unionT(fnT(intT))},
	{"a union with any", unionT(anyT, intT)},
	{"a union with any last", unionT(intT, recordT(""), anyT)},
	{"a union with a union", unionT(boolT, unionT(intT, textT))},
	{"a union with a union first", unionT(unionT(boolT, intT), textT)},
	{"a union whose kids descend", unionT(textT, intT)},
	{"a union of kids of which two are alike", unionT(intT, intT)},
	{"a union of kids of which the last two are alike", unionT(boolT, intT, intT)},
	{"a union of names that descend", unionT(nameT("b"), nameT("a"))},
	{"a union of which the first ones descend", unionT(intT, boolT, textT)},
	{"a union of functions that descend", unionT(fnT(anyT, intT), fnT(intT))},
	{"a union with {} ahead", unionT(recordT(""), recordT("a", intT))},
}

// wrongNames are the Names that no TyName has.
var wrongNames = []string{"", ".", "a.", ".a", "..", "a..b", ".a.b", "a.b.", "a.b.c", "a.b.c.d", "1", "1.a", "a.1", "a b", "a .b", "a. b", " a", "a ", "a.b\n", "a_b", "a,b", "a:b", "abcdefghijklm", "abcdefghijklm.a", "a.abcdefghijklm", "\u00e9", "a.\xff", "a\x00.b", "->", "{}"}

func sameType(a, b impl.Type) bool {
	return a.Kind == b.Kind && a.Name == b.Name && slices.Equal(a.Names, b.Names) && slices.EqualFunc(a.Kids, b.Kids, sameType)
}

func isZeroType(t impl.Type) bool {
	return sameType(t, impl.Type{})
}

func wantRight(t *testing.T, x impl.Type, text string) {
	t.Helper()
	if !impl.TypeOk(x) || impl.TypeText(x) != text {
		t.Errorf("TypeOk, TypeText = %v, %q, want true, %q", impl.TypeOk(x), impl.TypeText(x), text)
	}
}

func wantWrong(t *testing.T, what string, x impl.Type) {
	t.Helper()
	if impl.TypeOk(x) || impl.TypeText(x) != "" {
		t.Errorf("%.60s: TypeOk, TypeText = %v, %q, want false and nothing", what, impl.TypeOk(x), impl.TypeText(x))
	}
}

func wantUnion(t *testing.T, list []impl.Type, want impl.Type) {
	t.Helper()
	if got, ok := impl.Union(list); !ok || !sameType(got, want) {
		t.Errorf("Union of %v = %v, %v, want %v", list, got, ok, want)
	}
}

func wantNoUnion(t *testing.T, what string, list ...impl.Type) {
	t.Helper()
	if got, ok := impl.Union(list); ok || !isZeroType(got) {
		t.Errorf("Union of %.60s: %v, %v, want the zero value and false", what, got, ok)
	}
}

func wantRecord(t *testing.T, names []string, kids []impl.Type, want impl.Type) {
	t.Helper()
	if got, ok := impl.Record(names, kids); !ok || !sameType(got, want) {
		t.Errorf("Record(%q, %v) = %v, %v, want %v", names, kids, got, ok, want)
	}
}

func wantNoRecord(t *testing.T, what string, names []string, kids ...impl.Type) {
	t.Helper()
	if got, ok := impl.Record(names, kids); ok || !isZeroType(got) {
		t.Errorf("Record of %.60s: %v, %v, want the zero value and false", what, got, ok)
	}
}

func wantRenamed(t *testing.T, x impl.Type, mod string, want impl.Type) {
	t.Helper()
	if got := impl.Rename(x, mod); !sameType(got, want) {
		t.Errorf("Rename(%v, %q) = %v, want %v", x, mod, got, want)
	}
}

func wantNames(t *testing.T, x impl.Type, want ...string) {
	t.Helper()
	if got := impl.TypeNames(x); !slices.Equal(got, want) {
		t.Errorf("TypeNames(%v) = %q, want %q", x, got, want)
	}
}

// eachOrder hands out each order of some places.
func eachOrder(n int, do func(places []int)) {
	places := make([]int, n)
	for i := range places {
		places[i] = i
	}
	var from func(at int)
	from = func(at int) {
		if at == n {
			do(slices.Clone(places))
			return
		}
		for i := at; i < n; i++ {
			places[at], places[i] = places[i], places[at]
			from(at + 1)
			places[at], places[i] = places[i], places[at]
		}
	}
	from(0)
}

func inOrder(list []impl.Type, places []int) []impl.Type {
	var out []impl.Type
	for _, at := range places {
		out = append(out, list[at])
	}
	return out
}

func TestConstantsOfTypes(t *testing.T) {
	got := []int{impl.TyInt, impl.TyText, impl.TyBool, impl.TyAny, impl.TyName, impl.TyRecord, impl.TyFn, impl.TyUnion, impl.MaxDeep}
	if !slices.Equal(got, []int{0, 1, 2, 3, 4, 5, 6, 7, 12}) {
		t.Error(got)
	}
}

func TestEachKindOfTypeAndItsText(t *testing.T) {
	for _, c := range rightTypes {
		wantRight(t, c.t, c.text)
	}
}

func TestNoTwoTypesHaveOneText(t *testing.T) {
	for i, a := range rightTypes {
		for j, b := range rightTypes {
			if alike := a.text == b.text; alike != sameType(a.t, b.t) {
				t.Error(i, j, a.text, b.text)
			}
		}
	}
}

func TestWrongTypes(t *testing.T) {
	for _, c := range wrongTypes {
		wantWrong(t, c.what, c.t)
		wantNoUnion(t, c.what, c.t)
		wantNoUnion(t, c.what+" behind others", intT, textT, c.t)
		wantNoUnion(t, c.what+" ahead of any", c.t, anyT)
		wantNoUnion(t, c.what+" behind any", anyT, c.t)
		wantNoRecord(t, c.what, []string{"a"}, c.t)
		wantNoRecord(t, c.what+" last", []string{"a", "b"}, intT, c.t)
		wantRenamed(t, c.t, "m", c.t)
	}
}

func TestWrongTypesDeepWithinRightOnes(t *testing.T) {
	for _, c := range wrongTypes {
		deep, right := c.t, intT
		for range impl.MaxDeep - 2 {
			for _, wrap := range []func(x impl.Type) impl.Type{
				func(x impl.Type) impl.Type { return fnT(x) },
				func(x impl.Type) impl.Type { return fnT(x, intT) },
				func(x impl.Type) impl.Type { return fnT(intT, x, x) },
				func(x impl.Type) impl.Type { return recordT("a b", textT, x) },
				func(x impl.Type) impl.Type { return recordT("a b", x, textT) },
				func(x impl.Type) impl.Type { return fnT(unionT(intT, recordT("a", x)), intT) },
			} {
				wantWrong(t, c.what+", within", wrap(deep))
				if !impl.TypeOk(wrap(right)) {
					t.Fatal("what it is within is wrong itself")
				}
			}
			deep, right = fnT(boolT, deep), fnT(boolT, right)
		}
		wantNoUnion(t, c.what+", deep", intT, deep)
		wantNoRecord(t, c.what+", deep", []string{"a"}, deep)
		wantRenamed(t, deep, "m", deep)
	}
}

func TestNamesOfTypes(t *testing.T) {
	for _, s := range []string{"a", "T", "a1", "Int", "abcdefghijkl", "a.b", "T.T", "m.T1", "abcdefghijkl.abcdefghijkl", "Let.Any"} {
		wantRight(t, nameT(s), s)
	}
	for _, s := range wrongNames {
		wantWrong(t, strconv.Quote(s), nameT(s))
		wantWrong(t, strconv.Quote(s), fnT(nameT(s)))
	}
	for _, s := range languageWords {
		for _, name := range []string{s, s + ".a", "a." + s, s + "." + s} {
			wantWrong(t, name, nameT(name))
		}
	}
}

// deepened has something through one kind so many below it.
func deepened(t impl.Type, times int, wrap func(x impl.Type) impl.Type) impl.Type {
	for range times {
		t = wrap(t)
	}
	return t
}

func TestTypesAtMaxDeep(t *testing.T) {
	for what, wrap := range map[string]func(x impl.Type) impl.Type{
		"what a function gives":       func(x impl.Type) impl.Type { return fnT(x) },
		"what a function of one does": func(x impl.Type) impl.Type { return fnT(intT, x) },
		"a parameter":                 func(x impl.Type) impl.Type { return fnT(x, intT) },
		"the second parameter":        func(x impl.Type) impl.Type { return fnT(intT, x, intT) },
		"a field":                     func(x impl.Type) impl.Type { return recordT("a", x) },
		"the last field":              func(x impl.Type) impl.Type { return recordT("a b c", intT, textT, x) },
		"the first field":             func(x impl.Type) impl.Type { return recordT("a b c", x, intT, textT) },
	} {
		for _, leaf := range listT(intT, textT, boolT, anyT, nameT("T"), nameT("m.T"), recordT("")) {
			most := deepened(leaf, impl.MaxDeep, wrap)
			if !impl.TypeOk(most) || impl.TypeText(most) == "" {
				t.Errorf("MaxDeep below by %s is refused", what)
			}
			wantWrong(t, what, wrap(most))
			wantWrong(t, what, wrap(wrap(most)))
			wantUnion(t, listT(most), most)
			wantUnion(t, listT(most, most), most)
			wantUnion(t, listT(most, anyT), anyT)
			wantNoUnion(t, "what is one deeper then", most, intT)
			wantNoUnion(t, "what is too deep", wrap(most))
			wantNoUnion(t, "what is too deep, and any", wrap(most), anyT)
			wantNoRecord(t, "what is one deeper then", []string{"a"}, most)
			wantRenamed(t, wrap(most), "m", wrap(most))
			less := deepened(leaf, impl.MaxDeep-1, wrap)
			if u, ok := impl.Union(listT(boolT, intT, less)); !ok || len(u.Kids) != 3 {
				t.Errorf("a union of MaxDeep below by %s is refused", what)
			}
			wantRecord(t, []string{"z"}, listT(less), recordT("z", less))
		}
		wantWrong(t, what, deepened(intT, 5000, wrap))
	}
}

func TestUnionsAtMaxDeep(t *testing.T) {
	// two below each time: a union, and what stands in it
	for what, wrap := range map[string]func(x impl.Type) impl.Type{
		"fields":     func(x impl.Type) impl.Type { return unionT(intT, recordT("a", x)) },
		"parameters": func(x impl.Type) impl.Type { return unionT(fnT(x, intT), intT) },
		"functions":  func(x impl.Type) impl.Type { return unionT(fnT(x), intT) },
	} {
		most := deepened(boolT, impl.MaxDeep/2, wrap)
		if !impl.TypeOk(most) {
			t.Error(what, "are refused at MaxDeep below")
		}
		wantUnion(t, listT(most), most)
		wantUnion(t, listT(most, intT, most), most)
		for _, over := range listT(wrap(most), fnT(most), fnT(most, intT), recordT("a", most), deepened(fnT(boolT), impl.MaxDeep/2, wrap), deepened(unionT(boolT, textT), impl.MaxDeep/2, wrap)) {
			wantWrong(t, what, over)
			wantNoUnion(t, what, over)
		}
		within := unionT(intT, textT)
		if fits := deepened(within, impl.MaxDeep-1, func(x impl.Type) impl.Type { return fnT(x) }); !impl.TypeOk(fits) {
			t.Error("a union whose kids stand MaxDeep below is refused")
		}
	}
	wantWrong(t, "a union MaxDeep below", deepened(unionT(intT, textT), impl.MaxDeep, func(x impl.Type) impl.Type { return fnT(x) }))
}

func TestUnionIsOneInWhicheverOrderAndHoweverOften(t *testing.T) {
	kids := listT(fnT(intT), nameT("T"), intT, recordT("a", intT))
	want := unionT(kids...)
	wantRight(t, want, "(() -> int) | T | int | {a: int}")
	told := append(slices.Clone(kids), unionT(fnT(intT), intT), intT, want)
	eachOrder(len(kids), func(places []int) {
		wantUnion(t, inOrder(kids, places), want)
		twice := inOrder(kids, append(places, places[0], places[2]))
		wantUnion(t, twice, want)
		wantUnion(t, append(listT(want), twice...), want)
		// the same, told by unions of two
		first, _ := impl.Union(inOrder(kids, places[:2]))
		last, _ := impl.Union(inOrder(kids, places[2:]))
		wantUnion(t, listT(first, last), want)
		wantUnion(t, listT(last, kids[0], first, last), want)
	})
	eachOrder(len(told), func(places []int) {
		wantUnion(t, inOrder(told, places), want)
	})
}

func TestUnionOfUnionsIsFlat(t *testing.T) {
	pool := listT(intT, textT, boolT, nameT("T"), unionT(intT, textT), unionT(boolT, nameT("m.T")), recordT("a", unionT(intT, textT)), fnT(unionT(intT, textT)))
	for _, a := range pool {
		for _, b := range pool {
			ab, ok := impl.Union(listT(a, b))
			ba, _ := impl.Union(listT(b, a))
			if !ok || !impl.TypeOk(ab) || !sameType(ab, ba) {
				t.Fatal(impl.TypeText(a), impl.TypeText(b))
			}
			for _, c := range pool {
				bc, _ := impl.Union(listT(b, c))
				abc, ok := impl.Union(listT(a, b, c))
				if !ok || !impl.TypeOk(abc) {
					t.Fatal(impl.TypeText(a), impl.TypeText(b), impl.TypeText(c))
				}
				wantUnion(t, listT(ab, c), abc)
				wantUnion(t, listT(a, bc), abc)
				wantUnion(t, listT(c, ba, bc, abc), abc)
			}
		}
	}
}

func TestEdgesOfUnion(t *testing.T) {
	wantNoUnion(t, "no types")
	if got, ok := impl.Union([]impl.Type{}); ok || !isZeroType(got) {
		t.Error("of an empty list", got, ok)
	}
	for _, c := range rightTypes {
		wantUnion(t, listT(c.t), c.t)
		wantUnion(t, listT(c.t, c.t), c.t)
		wantUnion(t, listT(c.t, c.t, c.t), c.t)
		wantUnion(t, listT(c.t, anyT), anyT)
		wantUnion(t, listT(anyT, c.t), anyT)
		wantUnion(t, listT(c.t, anyT, intT, anyT), anyT)
	}
	u := unionT(boolT, intT, textT)
	for _, kid := range u.Kids {
		wantUnion(t, listT(u, kid), u)
		wantUnion(t, listT(kid, u), u)
		wantUnion(t, listT(kid, u, kid, u), u)
	}
	wantUnion(t, listT(unionT(boolT, intT), unionT(intT, textT)), u)
	wantUnion(t, listT(unionT(boolT, textT), intT), u)
	// any deeper within is a type as another one
	wantUnion(t, listT(intT, fnT(anyT)), unionT(fnT(anyT), intT))
	wantUnion(t, listT(recordT("a", anyT), recordT("a", intT)), unionT(recordT("a", anyT), recordT("a", intT)))
	wantUnion(t, listT(nameT("a"), fnT(anyT, intT), recordT(""), fnT(anyT)), unionT(fnT(anyT), fnT(anyT, intT), nameT("a"), recordT("")))
}

func TestGreatUnionsAndRecords(t *testing.T) {
	var list, fields []impl.Type
	var names []string
	const many = 3000
	for i := range many {
		s := "n" + strconv.Itoa((i*7)%many)
		list = append(list, nameT(s), fnT(nameT(s)))
		names = append(names, s)
		fields = append(fields, nameT(s))
	}
	if u, ok := impl.Union(append(list, list...)); !ok || len(u.Kids) != 2*many || !impl.TypeOk(u) {
		t.Error("a union of many", len(u.Kids), ok)
	}
	r, ok := impl.Record(names, fields)
	if !ok || len(r.Names) != many || !slices.IsSorted(r.Names) {
		t.Error("a record of many", len(r.Names), ok)
	}
	for i, kid := range r.Kids {
		if kid.Name != r.Names[i] {
			t.Fatal("a field went from its name", kid.Name, r.Names[i])
		}
	}
}

func TestRecordIsOneInWhicheverOrder(t *testing.T) {
	names := []string{"B", "a", "a1", "ab", "b"}
	kids := listT(intT, recordT("x", anyT), fnT(intT), unionT(intT, textT), intT)
	want := recordT("B a a1 ab b", kids...)
	wantRight(t, want, "{B: int, a: {x: any}, a1: () -> int, ab: int | text, b: int}")
	eachOrder(len(names), func(places []int) {
		var told []string
		for _, at := range places {
			told = append(told, names[at])
		}
		wantRecord(t, told, inOrder(kids, places), want)
	})
}

func TestEdgesOfRecord(t *testing.T) {
	wantRecord(t, nil, nil, recordT(""))
	wantRecord(t, []string{}, []impl.Type{}, recordT(""))
	wantRecord(t, []string{"abcdefghijkl"}, listT(anyT), recordT("abcdefghijkl", anyT))
	wantNoRecord(t, "more names", []string{"a", "b"}, intT)
	wantNoRecord(t, "more kids", []string{"a"}, intT, intT)
	wantNoRecord(t, "a name alone", []string{"a"})
	wantNoRecord(t, "a kid alone", nil, intT)
	wantNoRecord(t, "a name twice", []string{"a", "a"}, intT, intT)
	wantNoRecord(t, "a name twice, apart", []string{"b", "a", "c", "b"}, intT, intT, intT, intT)
	for _, s := range append(slices.Clone(languageWords), wrongNames...) {
		wantNoRecord(t, strconv.Quote(s), []string{s}, intT)
		wantNoRecord(t, strconv.Quote(s), []string{"b", s, "a"}, intT, intT, intT)
	}
	wantNoRecord(t, "a name with a dot", []string{"a.b"}, intT)
}

func TestRename(t *testing.T) {
	for _, c := range []struct{ from, to impl.Type }{
		{nameT("T"), nameT("m.T")},
		{nameT("m.T"), nameT("m.T")},
		{nameT("k.T"), nameT("k.T")},
		{nameT("m"), nameT("m.m")},
		{nameT("abcdefghijkl"), nameT("m.abcdefghijkl")},
		{intT, intT}, {textT, textT}, {boolT, boolT}, {anyT, anyT}, {recordT(""), recordT("")},
		// the names of fields are no Names of types
		{recordT("T a", nameT("T"), nameT("a.T")), recordT("T a", nameT("m.T"), nameT("a.T"))},
		{fnT(nameT("T"), anyT, nameT("U")), fnT(nameT("m.T"), anyT, nameT("m.U"))},
		{fnT(recordT("a", fnT(nameT("T")))), fnT(recordT("a", fnT(nameT("m.T"))))},
		// in order again
		{unionT(nameT("T"), nameT("a.T")), unionT(nameT("a.T"), nameT("m.T"))},
		{unionT(nameT("T"), intT), unionT(intT, nameT("m.T"))},
		{unionT(nameT("A"), nameT("k.B"), nameT("z"), recordT("")), unionT(nameT("k.B"), nameT("m.A"), nameT("m.z"), recordT(""))},
		{unionT(recordT("a", nameT("T")), recordT("a", nameT("b.T"))), unionT(recordT("a", nameT("b.T")), recordT("a", nameT("m.T")))},
		{unionT(fnT(nameT("T"), intT), fnT(nameT("a.T"), intT), boolT), unionT(fnT(nameT("a.T"), intT), fnT(nameT("m.T"), intT), boolT)},
		// alike ones once, and one alone as itself
		{unionT(nameT("T"), nameT("m.T")), nameT("m.T")},
		{unionT(nameT("T"), intT, nameT("m.T")), unionT(intT, nameT("m.T"))},
		{unionT(nameT("T"), nameT("U"), nameT("m.T"), nameT("m.U")), unionT(nameT("m.T"), nameT("m.U"))},
		{unionT(recordT("a", nameT("T")), recordT("a", nameT("m.T"))), recordT("a", nameT("m.T"))},
		{unionT(fnT(nameT("T")), fnT(nameT("m.T"))), fnT(nameT("m.T"))},
		// unions within unions: from within
		{fnT(unionT(nameT("T"), nameT("m.T")), unionT(nameT("T"), nameT("m.T"))), fnT(nameT("m.T"), nameT("m.T"))},
		{unionT(recordT("a", unionT(nameT("T"), nameT("m.T"))), recordT("a", nameT("m.T"))), recordT("a", nameT("m.T"))},
		{unionT(fnT(unionT(nameT("T"), nameT("a.U"))), fnT(unionT(nameT("a.U"), nameT("m.T")))), fnT(unionT(nameT("a.U"), nameT("m.T")))},
		{recordT("a b", unionT(nameT("T"), intT), unionT(nameT("T"), nameT("m.T"))), recordT("a b", unionT(intT, nameT("m.T")), nameT("m.T"))},
	} {
		if !impl.TypeOk(c.from) || !impl.TypeOk(c.to) {
			t.Fatal("the test's own types:", c.from, c.to)
		}
		wantRenamed(t, c.from, "m", c.to)
		wantRenamed(t, c.to, "m", c.to)
		for _, mod := range append([]string{"", "m.", "m.m", "1", "abcdefghijklm", "m\n", " m", "\xff"}, languageWords...) {
			wantRenamed(t, c.from, mod, c.from)
		}
	}
	long := "abcdefghijkl"
	wantRenamed(t, nameT("T"), long, nameT(long+".T"))
	wantRenamed(t, deepened(nameT("T"), impl.MaxDeep, func(x impl.Type) impl.Type { return fnT(x) }), "m", deepened(nameT("m.T"), impl.MaxDeep, func(x impl.Type) impl.Type { return fnT(x) }))
}

func TestTypeNamesAndHasAny(t *testing.T) {
	for _, c := range rightTypes {
		if any := strings.Contains(c.text, "any"); impl.HasAny(c.t) != any {
			t.Error("HasAny of", c.text, !any)
		}
	}
	for _, leaf := range listT(intT, textT, boolT, anyT, recordT("")) {
		wantNames(t, leaf)
		if impl.HasAny(leaf) != (leaf.Kind == impl.TyAny) {
			t.Error("HasAny of kind", leaf.Kind)
		}
	}
	wantNames(t, nameT("T"), "T")
	wantNames(t, nameT("m.T"), "m.T")
	wantNames(t, fnT(nameT("b"), nameT("a"), nameT("b")), "a", "b")
	wantNames(t, fnT(nameT("T"), nameT("m.T"), nameT("M.T"), nameT("T1")), "M.T", "T", "T1", "m.T")
	wantNames(t, recordT("x y", nameT("c"), fnT(unionT(nameT("a"), nameT("d")), recordT("z", nameT("b")))), "a", "b", "c", "d")
	for _, wrap := range []func(x impl.Type) impl.Type{
		func(x impl.Type) impl.Type { return fnT(x, intT) },
		func(x impl.Type) impl.Type { return fnT(intT, x) },
		func(x impl.Type) impl.Type { return recordT("a b", intT, x) },
		func(x impl.Type) impl.Type { return fnT(unionT(intT, recordT("a", x)), intT) },
	} {
		for _, times := range []int{1, 2, 4} {
			wantNames(t, deepened(nameT("T"), times, wrap), "T")
			if !impl.HasAny(deepened(anyT, times, wrap)) || impl.HasAny(deepened(nameT("T"), times, wrap)) {
				t.Error("any is not found within", times)
			}
		}
	}
}

// What is in a type that is none is in it all the same: the document names no other answer.
func TestTypeNamesAndHasAnyOfWrongTypes(t *testing.T) {
	wantNames(t, unionT(nameT("b"), nameT("a")), "a", "b")
	wantNames(t, unionT(nameT("b")), "b")
	wantNames(t, fnT(nameT("a.b.c"), nameT(""), nameT("let")), "", "a.b.c", "let")
	wantNames(t, impl.Type{Kind: 8, Name: "x", Kids: listT(nameT("a"))}, "a")
	wantNames(t, impl.Type{Kind: impl.TyInt, Name: "x", Names: []string{"y"}})
	wantNames(t, deepened(nameT("T"), 100, func(x impl.Type) impl.Type { return fnT(x) }), "T")
	if !impl.HasAny(unionT(anyT, intT)) || !impl.HasAny(impl.Type{Kind: impl.TyAny, Name: "x"}) || impl.HasAny(impl.Type{Kind: 8, Name: "any"}) || impl.HasAny(unionT()) {
		t.Error("any in what is no type")
	}
	if !impl.HasAny(deepened(anyT, 100, func(x impl.Type) impl.Type { return recordT("a", x) })) {
		t.Error("any deep in what is no type")
	}
}

// withinItself are values that no walk from kid to kid comes to the end of.
func withinItself() []impl.Type {
	one := fnT(intT)
	one.Kids[0] = one
	union := unionT(nameT("b"), anyT)
	union.Kids[1].Kind, union.Kids[1].Kids = impl.TyUnion, union.Kids
	wide := impl.Type{Kind: impl.TyFn, Kids: make([]impl.Type, 300)}
	for i := range wide.Kids {
		wide.Kids[i] = wide
	}
	wide.Kids[299] = fnT(nameT("T"), anyT)
	to, fro := recordT("a", intT), recordT("b", intT)
	to.Kids[0], fro.Kids[0] = fro, to
	// not within itself, but its text would have 2 to the 200th parts
	doubled := deepened(nameT("T"), 200, func(x impl.Type) impl.Type { return fnT(x, x) })
	none := impl.Type{Kind: 99, Kids: make([]impl.Type, 2)}
	none.Kids[0], none.Kids[1] = none, anyT
	// two lists that begin at one place, and end at others
	pieces := impl.Type{Kind: 99, Kids: make([]impl.Type, 3)}
	for i := range pieces.Kids {
		pieces.Kids[i] = impl.Type{Kind: 90 + i, Kids: pieces.Kids[:i+1]}
	}
	return listT(one, union, wide, to, doubled, none, pieces)
}

func TestTypesWithinThemselves(t *testing.T) {
	wantedNames := [][]string{nil, {"b"}, {"T"}, nil, {"T"}, nil, nil}
	wantedAny := []bool{false, false, true, false, false, true, false}
	for i, x := range withinItself() {
		wantWrong(t, "within itself", x)
		wantNoUnion(t, "what is within itself", x)
		wantNoUnion(t, "what is within itself, and any", anyT, x)
		wantNoRecord(t, "what is within itself", []string{"a"}, x)
		// not by %v, which comes to no end either
		if names := impl.TypeNames(x); !slices.Equal(names, wantedNames[i]) || impl.HasAny(x) != wantedAny[i] {
			t.Error("TypeNames or HasAny", i, names)
		}
		for _, mod := range []string{"m", "let"} {
			if got := impl.Rename(x, mod); !sameAllTheWay(listT(got), listT(x)) {
				t.Error("Rename gives another one, or shares memory", i)
			}
		}
	}
}

// sameAllTheWay tells whether two lists, which may be within themselves, are alike without one element in common.
func sameAllTheWay(a, b []impl.Type) bool {
	type pair struct{ a, b *impl.Type }
	seen := map[pair]int{}
	owners := map[*impl.Type]int{}
	var same func(a, b []impl.Type) bool
	same = func(a, b []impl.Type) bool {
		if len(a) != len(b) {
			return false
		}
		for i := range a {
			p := pair{&a[i], &b[i]}
			if seen[p] > 0 {
				continue
			}
			seen[p] = 1
			owners[p.a] |= 1
			owners[p.b] |= 2
			if owners[p.a] == 3 || owners[p.b] == 3 || a[i].Kind != b[i].Kind || a[i].Name != b[i].Name || !slices.Equal(a[i].Names, b[i].Names) || !same(a[i].Kids, b[i].Kids) {
				return false
			}
		}
		return true
	}
	return same(a, b)
}

// okByWords and textByWords are the document's chapter told once more, sentence by sentence.
func okByWords(t impl.Type, deep int) bool {
	if deep > 12 {
		return false
	}
	for _, kid := range t.Kids {
		if !okByWords(kid, deep+1) {
			return false
		}
	}
	noName, noNames, noKids := t.Name == "", len(t.Names) == 0, len(t.Kids) == 0
	switch t.Kind {
	case 0, 1, 2, 3:
		return noName && noNames && noKids
	case 4:
		parts := strings.Split(t.Name, ".")
		return noNames && noKids && len(parts) <= 2 && !slices.ContainsFunc(parts, func(s string) bool { return !impl.NameOk(s) })
	case 5:
		ascending := slices.IsSorted(t.Names) && len(slices.Compact(slices.Clone(t.Names))) == len(t.Names)
		return noName && ascending && len(t.Names) == len(t.Kids) && !slices.ContainsFunc(t.Names, func(s string) bool { return !impl.NameOk(s) })
	case 6:
		return noName && noNames && !noKids
	case 7:
		var texts []string
		for _, kid := range t.Kids {
			if kid.Kind == 7 || kid.Kind == 3 {
				return false
			}
			texts = append(texts, textByWords(kid))
		}
		return noName && noNames && len(texts) >= 2 && slices.IsSorted(texts) && len(slices.Compact(texts)) == len(t.Kids)
	}
	return false
}

func textByWords(t impl.Type) string {
	var texts []string
	for i, kid := range t.Kids {
		s := textByWords(kid)
		gives := t.Kind == 6 && i == len(t.Kids)-1
		if t.Kind == 7 && kid.Kind == 6 || gives && kid.Kind == 7 {
			s = "(" + s + ")"
		}
		if t.Kind == 5 {
			s = t.Names[i] + ": " + s
		}
		texts = append(texts, s)
	}
	switch t.Kind {
	case 5:
		return "{" + strings.Join(texts, ", ") + "}"
	case 6:
		return "(" + strings.Join(texts[:len(texts)-1], ", ") + ") -> " + texts[len(texts)-1]
	case 7:
		return strings.Join(texts, " | ")
	}
	return []string{"int", "text", "bool", "any", t.Name}[t.Kind]
}

func unionByWords(list []impl.Type) (impl.Type, bool) {
	byText := map[string]impl.Type{}
	anAny := false
	for _, x := range list {
		if !okByWords(x, 0) {
			return impl.Type{}, false
		}
		anAny = anAny || x.Kind == 3
		parts := listT(x)
		if x.Kind == 7 {
			parts = x.Kids
		}
		for _, part := range parts {
			byText[textByWords(part)] = part
		}
	}
	if anAny {
		return anyT, true
	}
	var texts []string
	for s := range byText {
		texts = append(texts, s)
	}
	slices.Sort(texts)
	out := unionT()
	for _, s := range texts {
		out.Kids = append(out.Kids, byText[s])
	}
	if len(texts) == 1 {
		out = out.Kids[0]
	}
	if !okByWords(out, 0) {
		return impl.Type{}, false
	}
	return out, true
}

func renamedByWords(t impl.Type, mod string) impl.Type {
	if t.Kind == 4 && !strings.Contains(t.Name, ".") {
		t.Name = mod + "." + t.Name
	}
	var kids []impl.Type
	for _, kid := range t.Kids {
		kids = append(kids, renamedByWords(kid, mod))
	}
	t.Kids = kids
	if t.Kind == 7 {
		slices.SortFunc(kids, func(a, b impl.Type) int { return strings.Compare(textByWords(a), textByWords(b)) })
		t.Kids = slices.CompactFunc(kids, sameType)
		if len(t.Kids) == 1 {
			return t.Kids[0]
		}
	}
	return t
}

func namesByWords(t impl.Type) []string {
	var names []string
	if t.Kind == 4 {
		names = append(names, t.Name)
	}
	for _, kid := range t.Kids {
		names = append(names, namesByWords(kid)...)
	}
	slices.Sort(names)
	return slices.Compact(names)
}

func anyByWords(t impl.Type) bool {
	return t.Kind == 3 || slices.ContainsFunc(t.Kids, anyByWords)
}

// A typeMaker makes a type of bytes: right ones mostly, as few of those that are only thrown together are.
type typeMaker struct {
	bytes []byte
	at    int
}

func (m *typeMaker) next(below int) int {
	m.at++
	if m.at > len(m.bytes) {
		return 0
	}
	return int(m.bytes[m.at-1]) % below
}

var someNames = []string{"T", "m.T", "a", "a.T", "m.a", "M", "let", "a.b.c", ""}

func (m *typeMaker) make(room int) impl.Type {
	t := impl.Type{Kind: m.next(8)}
	if m.next(60) == 59 {
		t.Kind = m.next(11) - 1
	}
	if t.Kind == impl.TyName || m.next(150) == 149 {
		t.Name = someNames[m.next(6)]
		if m.next(60) == 59 {
			t.Name = someNames[m.next(len(someNames))]
		}
	}
	if room > 0 && t.Kind >= impl.TyRecord || m.next(150) == 149 {
		for range 1 + m.next(3) {
			t.Kids = append(t.Kids, m.make(room-1))
		}
	}
	if t.Kind == impl.TyRecord || m.next(150) == 149 {
		for i := range t.Kids {
			t.Names = append(t.Names, string(rune('a'+2*i+m.next(3))))
		}
	}
	if t.Kind == impl.TyUnion && m.next(20) > 0 {
		if u, ok := unionByWords(append(t.Kids, intT, nameT("T"))); ok {
			return u
		}
	}
	return t
}

func sameAsByWords(t *testing.T, x, y impl.Type, mod string) {
	t.Helper()
	text := ""
	if okByWords(x, 0) {
		text = textByWords(x)
	}
	if impl.TypeOk(x) != okByWords(x, 0) || impl.TypeText(x) != text {
		t.Fatalf("TypeOk, TypeText of %v = %v, %q, want %q", x, impl.TypeOk(x), impl.TypeText(x), text)
	}
	for _, list := range [][]impl.Type{{x}, {x, y}, {y, x, x}, x.Kids, append(slices.Clone(y.Kids), x)} {
		got, ok := impl.Union(list)
		want, wantOk := unionByWords(list)
		if ok != wantOk || !sameType(got, want) {
			t.Fatalf("Union of %v = %v, %v, want %v, %v", list, got, ok, want, wantOk)
		}
	}
	want := x
	if okByWords(x, 0) && impl.NameOk(mod) {
		want = renamedByWords(x, mod)
		if !okByWords(want, 0) {
			t.Fatalf("the type renamed is none: %v", want)
		}
	}
	wantRenamed(t, x, mod, want)
	wantNames(t, x, namesByWords(x)...)
	if impl.HasAny(x) != anyByWords(x) {
		t.Fatalf("HasAny of %v = %v", x, impl.HasAny(x))
	}
	asGiven := impl.Type{Kind: impl.TyRecord, Names: slices.Clone(x.Names), Kids: slices.Clone(x.Kids)}
	if okByWords(asGiven, 0) {
		slices.Reverse(asGiven.Names)
		slices.Reverse(asGiven.Kids)
		wantRecord(t, asGiven.Names, asGiven.Kids, recordT(strings.Join(x.Names, " "), x.Kids...))
	}
}

// someBytes are the same ones each time, and look like any.
func someBytes(seed uint64, count int) []byte {
	var out []byte
	for range count {
		seed = seed*6364136223846793005 + 1442695040888963407
		out = append(out, byte(seed>>33))
	}
	return out
}

func TestTypesAsTheDocumentsWordsTell(t *testing.T) {
	right, unions := 0, 0
	for seed := range uint64(20000) {
		m := &typeMaker{bytes: someBytes(seed, 400)}
		x, y := m.make(3), m.make(2)
		sameAsByWords(t, x, y, []string{"m", "a", "Z", "let"}[seed%4])
		if impl.TypeOk(x) {
			right++
			if strings.Contains(impl.TypeText(x), "|") {
				unions++
			}
		}
	}
	if right < 8000 || right > 19000 || unions < 1000 {
		t.Error("the test's types are of one sort:", right, unions)
	}
}

func TestSmallTypesAsTheDocumentsWordsTell(t *testing.T) {
	pool := listT(intT, textT, anyT, nameT("T"), nameT("m.T"), nameT(""), fnT(intT), recordT(""), recordT("a", nameT("T")), unionT(intT, textT), unionT(nameT("T"), nameT("m.T")), fnT())
	var kidLists [][]impl.Type
	kidLists = append(kidLists, nil)
	for _, a := range pool {
		kidLists = append(kidLists, listT(a))
		for _, b := range pool {
			kidLists = append(kidLists, listT(a, b))
		}
	}
	for kind := -1; kind <= 8; kind++ {
		for _, name := range []string{"", "T", "a.b", "int"} {
			for _, names := range []string{"", "a", "a b", "b a", "a a", "in", "a b c"} {
				for _, kids := range kidLists {
					x := impl.Type{Kind: kind, Name: name, Names: strings.Fields(names), Kids: kids}
					sameAsByWords(t, x, unionT(intT, textT), "m")
				}
			}
		}
	}
}

// roomy is a type with room behind each list, in which something stands.
func roomy(t impl.Type) impl.Type {
	t.Name = strings.Clone(t.Name)
	names := make([]string, 0, len(t.Names)+2)
	for _, s := range t.Names {
		names = append(names, strings.Clone(s))
	}
	names[:cap(names)][len(names)] = "spare"
	t.Names = names
	t.Kids = roomyList(t.Kids)
	return t
}

func roomyList(list []impl.Type) []impl.Type {
	out := make([]impl.Type, 0, len(list)+2)
	for _, x := range list {
		out = append(out, roomy(x))
	}
	out[:cap(out)][len(out)] = impl.Type{Kind: impl.TyText, Name: "spare"}
	return out
}

// wholeOf is a copy of a type with all that stands behind its lists.
func wholeOf(t impl.Type) impl.Type {
	t.Names = slices.Clone(t.Names[:cap(t.Names)])
	t.Kids = wholeList(t.Kids)
	return t
}

func wholeList(list []impl.Type) []impl.Type {
	var out []impl.Type
	for _, x := range list[:cap(list)] {
		out = append(out, wholeOf(x))
	}
	return out
}

// memoryOf gathers the places of all elements of all lists, with their spare room, and all texts.
type memoryOf struct {
	places map[any]int
	texts  []string
}

func (m *memoryOf) addNames(names []string) {
	names = names[:cap(names)]
	for i := range names {
		m.places[&names[i]]++
		m.texts = append(m.texts, names[i])
	}
}

func (m *memoryOf) addList(list []impl.Type) {
	list = list[:cap(list)]
	for i := range list {
		m.places[&list[i]]++
		m.addType(list[i])
	}
}

func (m *memoryOf) addType(t impl.Type) {
	m.texts = append(m.texts, t.Name)
	m.addNames(t.Names)
	m.addList(t.Kids)
}

func newMemory() *memoryOf {
	return &memoryOf{places: map[any]int{}}
}

func wantNewMemory(t *testing.T, what string, answer, given *memoryOf) {
	t.Helper()
	for place, times := range answer.places {
		if times > 1 {
			t.Errorf("%s: two lists of the answer share memory", what)
		}
		if given.places[place] > 0 {
			t.Errorf("%s: the answer shares a list with an argument", what)
		}
	}
	for _, part := range answer.texts {
		for _, whole := range given.texts {
			if within(part, whole) {
				t.Errorf("%s: the answer shares the text %q with an argument", what, part)
			}
		}
	}
}

func TestNothingIsWrittenIntoTypesAndAnswersAreNew(t *testing.T) {
	var given []impl.Type
	for _, c := range rightTypes {
		given = append(given, c.t)
	}
	for _, c := range wrongTypes {
		given = append(given, c.t, fnT(c.t, recordT("b a", c.t, c.t)))
	}
	given = append(given, unionT(nameT("T"), nameT("m.T"), recordT("a", unionT(nameT("T"), nameT("m.T")))))
	for _, plain := range given {
		x := roomy(plain)
		before := wholeOf(x)
		memory := newMemory()
		memory.addType(x)
		look := func(what string, add func(m *memoryOf)) {
			answer := newMemory()
			add(answer)
			wantNewMemory(t, what, answer, memory)
			if !reflect.DeepEqual(wholeOf(x), before) {
				t.Fatalf("%s wrote into %v", what, plain)
			}
		}
		look("TypeOk", func(m *memoryOf) { impl.TypeOk(x) })
		look("TypeText", func(m *memoryOf) { m.texts = append(m.texts, impl.TypeText(x)) })
		look("Rename", func(m *memoryOf) { m.addType(impl.Rename(x, "m")) })
		look("Rename by no name", func(m *memoryOf) { m.addType(impl.Rename(x, "")) })
		look("TypeNames", func(m *memoryOf) { m.addNames(impl.TypeNames(x)) })
		look("HasAny", func(m *memoryOf) { impl.HasAny(x) })
	}
}

func TestNothingIsWrittenIntoListsAndAnswersAreNew(t *testing.T) {
	u := unionT(nameT("T"), intT, recordT("a b", fnT(intT), nameT("m.T")))
	shared := recordT("x", nameT("k.T"))
	for _, plain := range [][]impl.Type{
		nil, {intT}, {textT, intT, boolT}, {u}, {u, u}, {textT, u, boolT, u}, {anyT, u}, {u, anyT},
		{fnT(shared, shared), u}, {fnT(shared, shared)}, {u, unionT(textT, intT)}, {nameT("b"), nameT("a"), nameT("b")},
	} {
		list := roomyList(plain)
		var names []string
		for i := range plain {
			names = append(names, string(rune('z'-i)))
		}
		names = append(names, "spare")[:len(names)]
		namesBefore := slices.Clone(names[:cap(names)])
		before := wholeList(list)
		memory := newMemory()
		memory.addList(list)
		memory.addNames(names)
		union, _ := impl.Union(list)
		record, _ := impl.Record(names, list)
		for what, x := range map[string]impl.Type{"Union": union, "Record": record} {
			answer := newMemory()
			answer.addType(x)
			wantNewMemory(t, what, answer, memory)
		}
		if !reflect.DeepEqual(wholeList(list), before) || !slices.Equal(names[:cap(names)], namesBefore) {
			t.Fatalf("Union or Record wrote into %v", plain)
		}
	}
}

func TestOneListManyTimesInAType(t *testing.T) {
	shared := recordT("x", nameT("k.T"))
	for _, x := range listT(fnT(shared, shared), unionT(shared, shared), impl.Type{Kind: 50, Kids: listT(shared, fnT(shared))}, fnT(fnT(shared, shared), fnT(shared, shared))) {
		for _, mod := range []string{"m", "let"} {
			given, answer := newMemory(), newMemory()
			given.addType(x)
			answer.addType(impl.Rename(x, mod))
			wantNewMemory(t, "Rename", answer, &memoryOf{places: map[any]int{}})
			for place := range answer.places {
				if given.places[place] > 0 {
					t.Error("Rename's answer shares a list with its argument")
				}
			}
		}
	}
}

// manyShared has one list three times behind many others; as a record it is right, and as kind 99 none.
func manyShared(kind int) impl.Type {
	list := listT(intT, textT)
	x := impl.Type{Kind: impl.TyFn}
	for range 10001 {
		x.Kids = append(x.Kids, intT)
	}
	for range 3 {
		x.Kids = append(x.Kids, impl.Type{Kind: kind, Names: []string{"a", "b"}, Kids: list})
	}
	return x
}

func wantOwnLists(t *testing.T, what string, answer, given impl.Type) {
	t.Helper()
	a, g := newMemory(), newMemory()
	a.addType(answer)
	g.addType(given)
	for place, times := range a.places {
		if times > 1 || g.places[place] > 0 {
			t.Fatalf("%s: two lists of the answer share memory, or one with the argument", what)
		}
	}
	if len(a.places) < 10000 {
		t.Fatalf("%s: the answer is small", what)
	}
}

func TestOneListSomeTimesBehindManyOthers(t *testing.T) {
	for _, kind := range []int{impl.TyRecord, 99} {
		x := manyShared(kind)
		for _, mod := range []string{"m", "let"} {
			got := impl.Rename(x, mod)
			wantOwnLists(t, "Rename", got, x)
			if !sameType(got, x) {
				t.Error("Rename gives another one")
			}
		}
	}
	x := manyShared(impl.TyRecord)
	union, _ := impl.Union(listT(textT, x, intT, x))
	record, _ := impl.Record([]string{"b", "a"}, listT(x, x))
	wantOwnLists(t, "Union", union, x)
	wantOwnLists(t, "Record", record, x)
}

// greatType stands MaxDeep deep, and has each list ten times: no memory holds its text, nor all of its parts.
func greatType(of impl.Type, deep int) impl.Type {
	return deepened(of, deep, func(x impl.Type) impl.Type {
		return recordT("a b c d e f g h i j", x, x, x, x, x, x, x, x, x, x)
	})
}

// innermost goes down by some kid each time, and tells how many times.
func innermost(t impl.Type, by int) (impl.Type, int) {
	deep := 0
	for ; len(t.Kids) > 0; deep++ {
		t = t.Kids[(by+deep)%len(t.Kids)]
	}
	return t, deep
}

func wantGreat(t *testing.T, what string, x, of impl.Type, deep int) {
	t.Helper()
	for by := range 10 {
		if got, at := innermost(x, by); at != deep || !sameType(got, of) || len(x.Names) != 10 || len(x.Kids) != 10 {
			t.Fatalf("%s: %d deep stands %v", what, at, got)
		}
	}
}

func TestTypesThatNoMemoryHolds(t *testing.T) {
	x := greatType(nameT("T"), impl.MaxDeep)
	if !impl.TypeOk(x) || impl.TypeOk(recordT("a", x)) || impl.TypeOk(greatType(nameT("let"), impl.MaxDeep)) || impl.TypeOk(greatType(fnT(), impl.MaxDeep-1)) {
		t.Error("TypeOk of a great type")
	}
	wantGreat(t, "Rename", impl.Rename(x, "m"), nameT("m.T"), impl.MaxDeep)
	wantGreat(t, "Rename by no name", impl.Rename(x, "let"), nameT("T"), impl.MaxDeep)
	wantNames(t, x, "T")
	if impl.HasAny(x) || !impl.HasAny(greatType(anyT, impl.MaxDeep)) {
		t.Error("HasAny of a great type")
	}
	union, ok := impl.Union(listT(x, x, x))
	if !ok {
		t.Fatal("a union of one great type")
	}
	wantGreat(t, "Union", union, nameT("T"), impl.MaxDeep)
	wantNoUnion(t, "one that would be too deep", x, greatType(intT, 1))
	wantNoRecord(t, "one that would be too deep", []string{"a"}, x)
	// in the order of their texts, which part at their innermost ends
	var kids []impl.Type
	for _, name := range []string{"b", "m.T", "a", "m.S", "ab", "b"} {
		kids = append(kids, greatType(nameT(name), impl.MaxDeep-1))
	}
	union, ok = impl.Union(append(kids, intT))
	if !ok || len(union.Kids) != 6 || !sameType(union.Kids[0], intT) {
		t.Fatal("a union of great types", ok, len(union.Kids))
	}
	for i, name := range []string{"a", "ab", "b", "m.S", "m.T"} {
		wantGreat(t, "a union's kid", union.Kids[i+1], nameT(name), impl.MaxDeep-1)
	}
	if !impl.TypeOk(union) || impl.TypeOk(unionT(kids[0], kids[2])) || !impl.TypeOk(unionT(kids[2], kids[0])) {
		t.Error("a union of great types in order, or out of it")
	}
	renamed := impl.Rename(unionT(greatType(nameT("T"), impl.MaxDeep-1), greatType(nameT("m.T"), impl.MaxDeep-1)), "m")
	wantGreat(t, "a union that is one alone", renamed, nameT("m.T"), impl.MaxDeep-1)
}

func FuzzTypes(f *testing.F) {
	for seed := range uint64(10) {
		f.Add(someBytes(seed, 100), "m")
	}
	f.Add([]byte{}, "")
	f.Fuzz(func(t *testing.T, bytes []byte, mod string) {
		m := &typeMaker{bytes: bytes[:min(len(bytes), 2000)]}
		sameAsByWords(t, m.make(6), m.make(3), mod)
	})
}
