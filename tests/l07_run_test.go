package tests

import (
	"math"
	"reflect"
	"slices"
	"strconv"
	"strings"
	"testing"

	"loop.example/g00276/impl"
)

func vInt(n int) impl.Val     { return impl.Val{Kind: impl.VInt, N: n} }
func vText(s string) impl.Val { return impl.Val{Kind: impl.VText, S: s} }
func vFn(unit, name string, params int) impl.Val {
	return impl.Val{Kind: impl.VFn, N: params, Names: []string{unit, name}}
}
func vRecord(names string, kids ...impl.Val) impl.Val {
	return impl.Val{Kind: impl.VRecord, Names: strings.Fields(names), Kids: kids}
}

var (
	vTrue  = impl.Val{Kind: impl.VBool, N: 1}
	vFalse = impl.Val{Kind: impl.VBool}
)

// unitsFrom reads units of pairs: a name and a source.
func unitsFrom(t *testing.T, pairs ...string) []impl.Unit {
	t.Helper()
	var list []impl.Unit
	for i := 0; i+1 < len(pairs); i += 2 {
		list = append(list, impl.Unit{Name: pairs[i], Module: mustParse(t, pairs[i+1])})
	}
	return list
}

func unitOf(name string, defs ...impl.Def) impl.Unit {
	return impl.Unit{Name: name, Module: moduleOf("", defs...)}
}

// doneText tells each one as its unit, its name and what it is, stuck or fuel.
func doneText(list []impl.Done) string {
	var texts []string
	for _, d := range list {
		of := map[int]string{impl.RunOk: impl.ValText(d.Val), impl.RunStuck: "stuck", impl.RunFuel: "fuel"}[d.Code]
		texts = append(texts, d.Unit+"."+d.Name+" "+of)
	}
	return strings.Join(texts, "\n")
}

const muchFuel = 1000000

func wantRun(t *testing.T, units []impl.Unit, fuel int, want ...string) {
	t.Helper()
	list := impl.Run(units, fuel)
	if got := doneText(list); got != lines(want...) {
		t.Errorf("Run by %d of\n%s=\n%s\nwant\n%s", fuel, unitsText(units), got, lines(want...))
	}
	for _, d := range list {
		if d.Code != impl.RunOk && !reflect.DeepEqual(d.Val, impl.Val{}) {
			t.Errorf("%s is not done, but %+v", d.Name, d.Val)
		}
	}
}

// unitsText is cut where an expression is within itself, or deep.
func unitsText(units []impl.Unit) string {
	text := ""
	for _, u := range units {
		text += "[" + u.Name + "]\n" + impl.ShowModule(u.Module)
	}
	return text[:min(len(text), 20000)]
}

// wantIs runs one let a of an expression in a unit m, behind other lines.
func wantIs(t *testing.T, ahead, exp, want string) {
	t.Helper()
	units := unitsFrom(t, "m", ahead+"\nlet a = "+exp)
	list := impl.Run(units, muchFuel)
	if len(list) == 0 {
		t.Errorf("Run of %q tells nothing", exp)
		return
	}
	if got := doneText(list[len(list)-1:]); got != "m.a "+want {
		t.Errorf("%s is %q, want %q", exp, got, want)
	}
}

// wantVal runs one let of an expression made by hand, in what some lines make.
func wantVal(t *testing.T, ahead string, e impl.Exp, want impl.Val, code int) {
	t.Helper()
	m := mustParse(t, ahead)
	m.Defs = append(m.Defs, letDef("a", e))
	list := impl.Run([]impl.Unit{{Name: "m", Module: m}}, muchFuel)
	if len(list) == 0 {
		t.Errorf("%+v tells nothing", e)
		return
	}
	got := list[len(list)-1]
	if got.Name != "a" || got.Unit != "m" || got.Code != code || !sameVal(got.Val, want) {
		t.Errorf("%+v is %+v, want %+v, %d", e, got, want, code)
	}
}

func sameVal(a, b impl.Val) bool {
	return a.Kind == b.Kind && a.N == b.N && a.S == b.S && slices.Equal(a.Names, b.Names) && slices.EqualFunc(a.Kids, b.Kids, sameVal)
}

func sameDone(a, b []impl.Done) bool {
	return slices.EqualFunc(a, b, func(a, b impl.Done) bool {
		return a.Unit == b.Unit && a.Name == b.Name && a.Code == b.Code && sameVal(a.Val, b.Val)
	})
}

func TestConstantsOfRunning(t *testing.T) {
	got := []int{impl.VInt, impl.VText, impl.VBool, impl.VRecord, impl.VFn, impl.RunOk, impl.RunStuck, impl.RunFuel}
	if !slices.Equal(got, []int{0, 1, 2, 3, 4, 0, 1, 2}) {
		t.Error(got)
	}
}

func TestRunOfPlainExpressions(t *testing.T) {
	for exp, want := range map[string]string{
		"0":                                "0",
		"999999999":                        "999999999",
		`""`:                               `""`,
		`"a b"`:                            `"a b"`,
		"true":                             "true",
		"false":                            "false",
		"{}":                               "{}",
		"{b = 1, a = \"x\", c = {}}":       "{a = \"x\", b = 1, c = {}}",
		"{b = 1, a = {d = true, c = 2}}":   "{a = {c = 2, d = true}, b = 1}",
		"{b = 1, a = 2}.a":                 "2",
		"{b = {c = {d = 7}}, a = 2}.b.c.d": "7",
		"1 + 2":                            "3",
		"1 + 2 + 3 + 4":                    "10",
		`"a" + "b"`:                        `"ab"`,
		`"" + "" + "x" + "y"`:              `"xy"`,
		"if true then 1 else 2":            "1",
		"if false then 1 else 2":           "2",
		"if 1 == 1 then \"y\" else 2":      `"y"`,
		"if true then 1 else nope":         "1",
		"if false then nope else 1":        "1",
		"if true then (if false then 1 else 2) else 3": "2",
		"let q = 1 in q + q":                           "2",
		"let q = 1 in let q = q + 1 in q + q":          "4",
		"(let q = 1 in q) + (let r = 2 in r)":          "3",
		"let q = (let q = 1 in q + 1) in q":            "2",
		"let q = 1 in {a = let q = 2 in q, b = q}":     "{a = 2, b = 1}",
	} {
		wantIs(t, "", exp, want)
	}
	wantVal(t, "", exInt(-5), vInt(-5), impl.RunOk)
	wantVal(t, "", exText("\x00\"\n"), vText("\x00\"\n"), impl.RunOk)
	wantVal(t, "", exTrue, vTrue, impl.RunOk)
	wantVal(t, "", exFalse, vFalse, impl.RunOk)
	wantVal(t, "fn f(a: int, b: int): int = a", exName("f"), vFn("m", "f", 2), impl.RunOk)
	wantVal(t, "", exRecord("b a", exInt(1), exText("x")), vRecord("a b", vText("x"), vInt(1)), impl.RunOk)
}

func TestRunOfSumsAround64Bits(t *testing.T) {
	for _, c := range [][3]int{
		{math.MaxInt, 1, math.MinInt}, {1, math.MaxInt, math.MinInt}, {math.MaxInt, math.MaxInt, -2}, {math.MinInt, -1, math.MaxInt},
		{math.MinInt, math.MinInt, 0}, {math.MaxInt, math.MinInt, -1}, {math.MaxInt, 0, math.MaxInt}, {math.MaxInt - 1, 1, math.MaxInt},
	} {
		wantVal(t, "", exAdd(exInt(c[0]), exInt(c[1])), vInt(c[2]), impl.RunOk)
	}
	wantIs(t, "fn f(n: int, k: int): int = if k == 60 then n else f(n + n, k + 1)", "f(1, 1)", strconv.Itoa(1<<59))
	wantIs(t, "fn f(n: int, k: int): int = if k == 55 then n else f(n + n + n, k + 1)\nlet b = f(1, 0)", "b == f(1, 0)", "true")
}

func TestRunOfWhatIsAlike(t *testing.T) {
	ahead := "fn f(x: int): int = x\nfn g(x: int): int = x\nlet h = f\nlet r = {a = 1, b = {c = f}}"
	for _, exp := range []string{
		"1 == 1", `"" == ""`, `"ab" == "a" + "b"`, "true == true", "false == false", "{} == {}", "{a = 1, b = 2} == {b = 2, a = 1}",
		"f == f", "f == h", "r == r", "r == {b = {c = h}, a = 1}", "(1 == 1) == true", "(1 == 2) == false", "{a = f} == {a = f}",
	} {
		wantIs(t, ahead, exp, "true")
	}
	for _, exp := range []string{
		"1 == 2", "1 == true", "0 == false", `0 == ""`, `"a" == "b"`, `"a" == "ab"`, "true == false", "{} == {a = 1}", "{a = 1} == {}", "{a = 1} == {b = 1}",
		"{a = 1} == {a = 2}", "{a = {b = 1}} == {a = {b = 2}}", "{a = 1} == {a = true}", "{a = 1, b = 2} == {a = 1}", "{} == 0", "f == g", "f == 1", "{a = f} == {a = g}",
		"r == {a = 1, b = {c = g}}", "f == {}", "{a = 0} == {a = {}}",
	} {
		wantIs(t, ahead, exp, "false")
	}
	// of functions: the unit, the name and the parameters
	wantRun(t, unitsFrom(t, "m", "fn f(x: int): int = x", "n", "fn f(x: int): int = x", "main", "import m import n\nlet a = m.f == n.f\nlet b = m.f == m.f"),
		muchFuel, "m.f fn m.f", "n.f fn n.f", "main.a false", "main.b true")
	wantIs(t, "fn f(x: int): int = x\nlet g = f\nfn f(): int = 1", "f == g", "false")
	wantIs(t, "fn f(x: int): int = x\nlet g = f\nfn f(y: text): int = 1", "f == g", "true")
}

func TestRunOfCalls(t *testing.T) {
	ahead := lines(
		"let v = 5",
		"fn zero(): int = v",
		"fn one(x: int): int = x + v",
		"fn two(x: text, y: int): {n: int, s: text} = {s = x, n = y}",
		"fn six(a: int, b: int, c: int, d: int, e: int, f: int): int = a + b + c + d + e + f",
		"fn up(n: int): int = if n == 9 then n else up(n + 1)",
		"fn twice(f: (int) -> int, x: int): int = f(f(x))",
		"fn pick(b: bool): (int) -> int = if b then one else up",
		"fn both(f: (int) -> int, g: (int) -> int, n: int): int = if n == 4 then n else g(f(n))",
		"fn give(f: ((int) -> int, int) -> int): int = f(one, 1)",
	)
	for exp, want := range map[string]string{
		"zero()":                         "5",
		"one(1)":                         "6",
		"one(one(one(0)))":               "15",
		"two(\"a\", 1)":                  "{n = 1, s = \"a\"}",
		"two(\"a\", one(2)).n":           "7",
		"six(1, 2, 3, 4, 5, 6)":          "21",
		"up(0)":                          "9",
		"up(9)":                          "9",
		"twice(one, 1)":                  "11",
		"twice(up, 1)":                   "9",
		"pick(true)":                     "fn m.one",
		"pick(true)(1) + pick(false)(2)": "15",
		"{f = one, g = up}.f(3)":         "8",
		"(let q = one in q)(3)":          "8",
		"(if true then one else 1)(3)":   "8",
		"let one = up in one(3)":         "9",
		"both(one, up, 1)":               "9",
		"give(twice)":                    "11",
		"let v = 100 in one(1)":          "6",
		"let x = 100 in zero() + x":      "105",
		"two(\"a\", 1) == two(\"a\", 1)": "true",
	} {
		wantIs(t, ahead, exp, want)
	}
	// a parameter hides the function itself and what is ahead, but only within
	wantIs(t, "fn f(f: int): int = f + 1", "f(f(1))", "3")
	wantIs(t, "let x = 1\nfn f(x: int): int = x", "f(2) + x", "3")
	// what the caller has in scope is not seen within
	wantIs(t, "fn f(): int = q", "let q = 1 in f()", "stuck")
	wantIs(t, "fn f(): int = x\nfn g(x: int): int = f()", "g(1)", "stuck")
	// and what was given is seen again behind the call
	wantIs(t, "fn f(x: int): int = x + 1\nfn g(x: int): int = f(x + 10) + x", "g(1)", "13")
	wantIs(t, "fn f(x: int): int = let x = x + 1 in x", "let x = 5 in f(x) + x", "11")
}

func TestFunctionsCallEachOther(t *testing.T) {
	// by being given on, as none sees those behind it
	src := lines(
		"fn even(n: int, self: (int, int) -> bool): bool = if n == 0 then true else self(n, 1)",
		"fn less(n: int, k: int): int = if k + 1 == n then k else less(n, k + 1)",
		"fn odd(n: int, k: int): bool = if n == 1 then true else even(less(n, 0), odd)",
		"fn isEven(n: int): bool = even(n, odd)",
		"let a = isEven(6)",
		"let b = {f = odd}.f == odd",
	)
	wantRun(t, unitsFrom(t, "m", src), muchFuel, "m.even fn m.even", "m.less fn m.less", "m.odd fn m.odd", "m.isEven fn m.isEven", "m.a true", "m.b true")
}

func TestFunctionsGivenOnSeeWhatWasAheadOfThem(t *testing.T) {
	units := unitsFrom(t,
		"m", "let v = 1\nfn f(x: int): int = x + v\nlet v = 2\nfn g(x: int): int = x + v\nlet r = {f = f, g = g}\nlet v = 4",
		"n", "import m\nlet v = 10\nfn h(f: (int) -> int): int = f(v)\nlet a = h(m.f)\nlet b = h(m.g)\nlet c = m.r\nfn own(x: int): int = x + v",
		"main", "import m import n\nlet v = 100\nlet a = n.h(m.f)\nlet b = n.c.f(v)\nlet c = n.c.g(v)\nlet d = n.h(n.own)\nfn i(x: int): int = x + v\nlet e = n.h(i)\nlet f = m.v",
	)
	wantRun(t, units, muchFuel,
		"m.v 1", "m.f fn m.f", "m.v 2", "m.g fn m.g", "m.r {f = fn m.f, g = fn m.g}", "m.v 4",
		"n.v 10", "n.h fn n.h", "n.a 11", "n.b 12", "n.c {f = fn m.f, g = fn m.g}", "n.own fn n.own",
		"main.v 100", "main.a 11", "main.b 101", "main.c 102", "main.d 20", "main.i fn main.i", "main.e 110", "main.f 4")
	// not what comes behind, even where it is done when the function is called
	wantRun(t, unitsFrom(t, "m", "fn f(): int = v\nlet v = 1\nlet a = f()\nlet b = 2"), muchFuel, "m.f fn m.f", "m.v 1", "m.a stuck")
	wantRun(t, unitsFrom(t, "m", "fn f(n: int): int = g(n)\nfn g(n: int): int = n\nlet a = f(1)"), muchFuel, "m.f fn m.f", "m.g fn m.g", "m.a stuck")
	wantRun(t, unitsFrom(t, "m", "fn f(): int = v\nlet v = 1", "main", "import m\nlet v = 2\nlet a = m.f()"), muchFuel, "m.f fn m.f", "m.v 1", "main.v 2", "main.a stuck")
	// itself, also where one of its name is ahead or behind
	wantIs(t, "let f = 1\nfn f(n: int): int = if n == 3 then n else f(n + 1)\nlet g = f\nlet f = 2", "g(0) + f", "5")
}

func TestSeveralLetsOfOneName(t *testing.T) {
	wantRun(t, unitsFrom(t, "m", "let a = 1\nlet a = a + 1\nlet b = a\nlet a = a + b\nlet c = a", "main", "import m\nlet a = m.a + m.b"),
		muchFuel, "m.a 1", "m.a 2", "m.b 2", "m.a 4", "m.c 4", "main.a 6")
	wantRun(t, unitsFrom(t, "m", "let a = 1\nfn f(): int = a\nlet a = f() + 5\nfn g(): int = a\nlet f = 3\nlet b = g() + f\nlet c = f()"),
		muchFuel, "m.a 1", "m.f fn m.f", "m.a 6", "m.g fn m.g", "m.f 3", "m.b 9", "m.c stuck")
	wantRun(t, unitsFrom(t, "m", "fn a(): int = 1\nlet b = a()\nlet a = b\nlet c = a + 1\nfn a(): text = \"x\"\nlet d = a", "main", "import m\nlet a = m.a"),
		muchFuel, "m.a fn m.a", "m.b 1", "m.a 1", "m.c 2", "m.a fn m.a", "m.d fn m.a", "main.a fn m.a")
}

func TestExportsOfUnitsAhead(t *testing.T) {
	wantRun(t, unitsFrom(t, "m", "let a = 1\nlet r = {x = 2}\nfn f(): int = 3", "n", "import m\nlet a = m.a + m.r.x + m.f()", "main", "import m import n\nlet b = m.a + n.a\nlet c = m.f"),
		muchFuel, "m.a 1", "m.r {x = 2}", "m.f fn m.f", "n.a 6", "main.b 7", "main.c fn m.f")
	for what, units := range map[string][]impl.Unit{
		"none of that name":             unitsFrom(t, "main", "import m\nlet a = m.a"),
		"one behind":                    unitsFrom(t, "main", "import m\nlet a = m.a", "m", "let a = 1"),
		"nothing of that name in it":    unitsFrom(t, "m", "let b = 1\ntype a = int", "main", "import m\nlet a = m.a"),
		"the one that is not whole yet": unitsFrom(t, "main", "import main\nlet b = 1\nlet a = main.b"),
		"without what is given":         unitsFrom(t, "m", "fn f(p: int): int = p", "main", "import m\nlet a = m.p"),
		"one of nothing":                unitsFrom(t, "m", "", "main", "import m\nlet a = m.a"),
	} {
		list := impl.Run(units, muchFuel)
		if got := doneText(list[len(list)-1:]); got != "main.a stuck" {
			t.Errorf("%s: %s", what, got)
		}
	}
	// what counts is which units are whole when the expression is begun
	wantRun(t, unitsFrom(t, "n", "import m\nfn f(): int = m.a\nlet b = 1", "m", "let a = 5", "main", "import n\nlet a = n.f()"),
		muchFuel, "n.f fn n.f", "n.b 1", "m.a 5", "main.a 5")
	wantRun(t, unitsFrom(t, "m", "import m\nfn f(): int = m.a\nlet a = 5", "main", "import m\nlet a = m.f()"), muchFuel, "m.f fn m.f", "m.a 5", "main.a 5")
	// names of modules need not be names, and Imports are not asked for
	odd := unitOf("", letDef("", exInt(7)), letDef("let", exName("")))
	wantRun(t, []impl.Unit{odd, unitOf("x y", letDef("a", exMod("", "")), letDef("b", exMod("", "let")))}, muchFuel, ". 7", ".let 7", "x y.a 7", "x y.b 7")
	wantVal(t, "", impl.Exp{Kind: impl.ExMod, Text: "m"}, impl.Val{}, impl.RunStuck)
	more := impl.Exp{Kind: impl.ExMod, Text: "m", Names: []string{"b", "c"}}
	wantRun(t, []impl.Unit{unitOf("m", letDef("b", exInt(2)), letDef("c", exInt(3))), unitOf("n", letDef("a", more))}, muchFuel, "m.b 2", "m.c 3", "n.a 2")
}

func TestUnitsOfOneName(t *testing.T) {
	// what was done ahead in one is so in all
	wantRun(t, unitsFrom(t, "m", "let a = 1\nfn f(): int = a", "n", "let a = 10", "m", "let b = a + f()\nlet a = 5\nfn g(): int = a + b\nlet c = g()"),
		muchFuel, "m.a 1", "m.f fn m.f", "n.a 10", "m.b 2", "m.a 5", "m.g fn m.g", "m.c 7")
	wantRun(t, unitsFrom(t, "m", "fn f(): int = a", "m", "let a = 1\nlet b = f()"), muchFuel, "m.f fn m.f", "m.a 1", "m.b stuck")
	// of modules, the first one that is whole is told of
	wantRun(t, unitsFrom(t, "m", "let a = 1\nlet b = 2", "m", "import m\nlet a = m.a + 10\nlet c = a + m.a", "main", "import m\nlet a = m.a\nlet b = m.b\nlet c = m.c"),
		muchFuel, "m.a 1", "m.b 2", "m.a 11", "m.c 12", "main.a 1", "main.b 2", "main.c stuck")
	wantRun(t, unitsFrom(t, "m", "", "m", "let a = 1", "main", "import m\nlet a = m.a"), muchFuel, "m.a 1", "main.a stuck")
	// of functions of one name and as many parameters the first one counts, in what was ahead of it
	wantRun(t, unitsFrom(t, "m", "let v = 1\nfn f(x: int): int = x + v", "m", "let v = 2\nfn f(y: int): int = y + v + 100\nlet a = f(10)", "main", "import m\nlet a = m.f(20)"),
		muchFuel, "m.v 1", "m.f fn m.f", "m.v 2", "m.f fn m.f", "m.a 11", "main.a 21")
	wantRun(t, unitsFrom(t, "m", "fn f(x: int): int = 1\nfn f(x: int): int = 2\nlet a = f(0)"), muchFuel, "m.f fn m.f", "m.f fn m.f", "m.a 1")
	// but not of others, nor of another unit
	wantRun(t, unitsFrom(t, "m", "fn f(x: int): int = 1\nlet g = f\nfn f(x: int, y: int): int = 2\nlet a = f(0, 0) + g(0)\nlet b = f(0)"),
		muchFuel, "m.f fn m.f", "m.g fn m.f", "m.f fn m.f", "m.a 3", "m.b stuck")
	wantRun(t, unitsFrom(t, "m", "fn f(x: int): int = 1", "n", "fn f(x: int): int = 2\nlet a = f(0)"), muchFuel, "m.f fn m.f", "n.f fn n.f", "n.a 2")
	wantRun(t, unitsFrom(t, "m", "let f = 1\nfn f(): int = 2\nlet f = 3\nfn f(): int = 4\nlet a = f()"), muchFuel, "m.f 1", "m.f fn m.f", "m.f 3", "m.f fn m.f", "m.a 2")
	same := unitsFrom(t, "m", "let a = 1\nfn f(): int = a")
	wantRun(t, append(same, same...), muchFuel, "m.a 1", "m.f fn m.f", "m.a 1", "m.f fn m.f")
}

func TestTheFirstThatIsNotOkIsTheLast(t *testing.T) {
	wantRun(t, unitsFrom(t, "m", "let a = 1\nlet b = nope\nlet c = 2", "n", "let d = 1"), muchFuel, "m.a 1", "m.b stuck")
	wantRun(t, unitsFrom(t, "m", "let a = 1", "n", "fn f(): int = f()\nlet d = f()\nfn g(): int = 1", "o", "let e = 1"), muchFuel, "m.a 1", "n.f fn n.f", "n.d fuel")
	wantRun(t, unitsFrom(t, "m", "fn f(): int = nope\nlet b = 1"), muchFuel, "m.f fn m.f", "m.b 1")
	wantRun(t, unitsFrom(t, "m", "type T = int\nlet a: T = \"x\"\ntype U = T\nfn f(): U = true\nlet b: int = f()"), muchFuel, "m.a \"x\"", "m.f fn m.f", "m.b true")
	wantRun(t, nil, muchFuel)
	wantRun(t, []impl.Unit{}, 0)
	wantRun(t, []impl.Unit{{}, {Name: "m"}, {Name: "n"}}, 0)
	wantRun(t, unitsFrom(t, "m", "type T = int", "n", ""), 0)
}

// fuelOf are expressions with what they take.
var fuelOf = []struct {
	exp  string
	fuel int
}{
	{"1", 1},
	{`"a"`, 1},
	{"true", 1},
	{"v", 1},
	{"f", 1},
	{"o.w", 1},
	{"{}", 1},
	{"{a = 1}", 2},
	{"{a = 1, b = {c = v}}", 4},
	{"{a = 1}.a", 3},
	{"1 + 2", 3},
	{"1 + 2 + 3", 5},
	{"1 == 2", 3},
	{"if true then 1 else 2", 3},
	{"if false then 1 else 2 + 3", 5},
	{"let q = 1 in q", 3},
	{"let q = 1 + 2 in q + q + q", 9},
	{"f(1)", 6},
	{"f(f(1))", 11},
	{"f(1 + 1)", 8},
	{"up(3)", 8},
	{"up(2)", 17},
	{"o.g()", 3},
	{"o.g", 1},
	{"(1)", 1},
}

func TestFuelThatIsJustEnough(t *testing.T) {
	for _, c := range fuelOf {
		units := unitsFrom(t,
			"o", "fn g(): int = 3\nlet w = 7",
			"m", "import o\nlet v = 5\nfn f(x: int): int = x + v\nfn up(n: int): int = if n == 3 then n else up(n + 1)\nlet a = "+c.exp)
		ahead := []string{"o.g fn o.g", "o.w 7", "m.v 5", "m.f fn m.f", "m.up fn m.up"}
		whole := impl.Run(units, muchFuel)
		if len(whole) != 6 || whole[5].Code != impl.RunOk {
			t.Fatal("the test's own expression", c.exp)
		}
		// 1 for w and for v
		enough := c.fuel + 2
		if got := impl.Run(units, enough); !sameDone(got, whole) {
			t.Errorf("%s: by %d it is %s", c.exp, c.fuel, doneText(got))
		}
		for less := 2; less < enough; less++ {
			wantRun(t, units, less, append(ahead, "m.a fuel")...)
		}
		wantRun(t, units, 1, "o.g fn o.g", "o.w 7", "m.v fuel")
		for _, none := range []int{0, -1, math.MinInt} {
			wantRun(t, units, none, "o.g fn o.g", "o.w fuel")
		}
		for _, more := range []int{enough + 1, 1 << 40, math.MaxInt} {
			if got := impl.Run(units, more); !sameDone(got, whole) {
				t.Errorf("%s: by %d it is %s", c.exp, more, doneText(got))
			}
		}
	}
}

func TestFuelIsForAllUnitsTogether(t *testing.T) {
	units := unitsFrom(t, "m", "let a = 1\nlet b = 1 + 1", "n", "fn f(): int = 1", "m", "let c = a + b", "o", "let d = {x = 1}")
	whole := []string{"m.a 1", "m.b 2", "n.f fn n.f", "m.c 3", "o.d {x = 1}"}
	wantRun(t, units, 9, whole...)
	wantRun(t, units, 8, append(slices.Clone(whole[:4]), "o.d fuel")...)
	wantRun(t, units, 7, append(slices.Clone(whole[:4]), "o.d fuel")...)
	wantRun(t, units, 6, append(slices.Clone(whole[:3]), "m.c fuel")...)
	wantRun(t, units, 4, append(slices.Clone(whole[:3]), "m.c fuel")...)
	wantRun(t, units, 3, append(slices.Clone(whole[:1]), "m.b fuel")...)
	wantRun(t, units, 0, "m.a fuel")
	wantRun(t, unitsFrom(t, "m", "fn f(): int = 1\nfn g(): int = 2"), 0, "m.f fn m.f", "m.g fn m.g")
	wantRun(t, unitsFrom(t, "m", "fn f(): int = 1\nfn g(): int = 2"), math.MinInt, "m.f fn m.f", "m.g fn m.g")
}

func TestCallsWithinCalls(t *testing.T) {
	ahead := "fn up(n: int): int = if n == 60 then n else up(n + 1)"
	wantIs(t, ahead, "up(1)", "60")
	wantIs(t, ahead, "up(0)", "fuel")
	// one behind the other, and those that are given, are not within each other
	wantIs(t, ahead, "up(1) + up(1)", "120")
	wantIs(t, "fn up(n: int): int = if n == 60 then 1 else up(n + 1)", "up(up(up(1)))", "1")
	wantIs(t, ahead+"\nlet b = up(1)", "up(1)", "60")
	// those of other functions and units count
	wantIs(t, ahead+"\nfn f(n: int): int = up(n)", "f(2)", "60")
	wantIs(t, ahead+"\nfn f(n: int): int = up(n)", "f(1)", "fuel")
	units := unitsFrom(t, "m", ahead, "n", "import m\nfn f(g: (int) -> int): int = g(2)\nlet a = f(m.up)\nfn h(g: (int) -> int): int = f(g)\nlet b = h(m.up)")
	wantRun(t, units, muchFuel, "m.up fn m.up", "n.f fn n.f", "n.a 60", "n.h fn n.h", "n.b fuel")
	// where it is left, there is room again
	wantIs(t, "fn up(n: int): int = if n == 59 then n else up(n + 1)\nfn f(n: int): int = up(1) + up(n)", "f(1)", "118")
	wantIs(t, "fn up(n: int): int = if n == 59 then n else up(n + 1)\nfn f(n: int): int = up(1) + up(n)", "f(0)", "fuel")
	wantIs(t, "fn up(n: int): int = let q = 1 in {a = if n == 60 then n else up(n + q) + 0}.a", "up(1)", "60")
	// one more that makes no sense is no call
	for _, last := range []string{"n(1)", "up()", "up(1, 2)", "nope(1)", "up(nope)"} {
		wantIs(t, "fn up(n: int): int = if n == 60 then "+last+" else up(n + 1)", "up(1)", "stuck")
	}
	wantIs(t, "fn one(): int = 1\nfn up(n: int): int = if n == 60 then one() else up(n + 1)", "up(1)", "fuel")
	wantIs(t, "fn one(): int = 1\nfn up(n: int): int = if n == 60 then one() else up(n + 1)", "up(2)", "1")
}

func TestWhatMakesNoSense(t *testing.T) {
	ahead := "fn f(x: int): int = x\nfn g(): int = 1\nlet r = {a = 1}"
	for _, exp := range []string{
		"nope", "a", "m", "1.a", "\"x\".a", "true.a", "f.a", "f.m", "{}.a", "r.b", "r.a.a", "if 1 then 2 else 3", "if \"\" then 2 else 3", "if {} then 1 else 1", "if f then 1 else 1", "if 0 then 1 else 2",
		"1 + \"x\"", "\"x\" + 1", "1 + true", "true + true", "{} + {}", "f + f", "1 + f", "\"\" + {}", "1(2)", "\"f\"(1)", "true()", "{}(1)", "r.a(1)", "f()", "f(1, 2)", "g(1)", "f(1)(2)",
		"{a = 1, b = nope}", "nope.a", "f(nope)", "nope(1)", "let q = nope in 1", "let q = 1 in nope", "(let q = 1 in q) + q", "1 == nope", "nope == 1", "if nope then 1 else 2", "if true then nope else 2",
		"if false then 1 else nope", "x", "1 + (if true then nope else 1)", "f(f)(1)(1)",
	} {
		wantIs(t, ahead, exp, "stuck")
	}
	// what is not begun may make none
	for exp, want := range map[string]string{"if true then 1 else 1 + true": "1", "if 1 == 2 then nope else 3": "3", "let q = f in q(2)": "2", "f(f)(1)": "1"} {
		wantIs(t, ahead, exp, want)
	}
	wantIs(t, "", "a", "stuck")
	wantIs(t, "fn f(x: int): int = x.y", "f(1)", "stuck")
}

func TestExpressionsWithTooFewKids(t *testing.T) {
	for kind, needed := range map[int]int{impl.ExField: 1, impl.ExCall: 1, impl.ExIf: 3, impl.ExAdd: 2, impl.ExSame: 2, impl.ExIn: 2} {
		for few := range needed {
			kids := slices.Repeat([]impl.Exp{exTrue}, few)
			wantVal(t, "", impl.Exp{Kind: kind, Text: "a", Kids: kids}, impl.Val{}, impl.RunStuck)
			// the kids that are there may end it first, and take fuel
			units := []impl.Unit{unitOf("m", letDef("a", impl.Exp{Kind: kind, Text: "a", Kids: kids}))}
			wantRun(t, units, 1+few, "m.a stuck")
			wantRun(t, units, few, "m.a fuel")
		}
	}
	wantVal(t, "", exRecord("a"), impl.Val{}, impl.RunStuck)
	wantVal(t, "", exRecord("a b", exInt(1)), impl.Val{}, impl.RunStuck)
	wantRun(t, []impl.Unit{unitOf("m", letDef("a", exRecord("a b", exInt(1))))}, 1, "m.a fuel")
	wantRun(t, []impl.Unit{unitOf("m", letDef("a", exRecord("a b", exInt(1))))}, 2, "m.a stuck")
}

func TestExpressionsWithTooManyKids(t *testing.T) {
	more := func(e impl.Exp, kids ...impl.Exp) impl.Exp {
		e.Kids = append(slices.Clone(e.Kids), kids...)
		return e
	}
	nope := exName("nope")
	for _, c := range []struct {
		e    impl.Exp
		fuel int
	}{
		{more(exInt(2), nope), 1}, {more(exName("v"), nope), 1}, {exAdd(exInt(1), exInt(1)), 3}, {more(exAdd(exInt(1), exInt(1)), nope), 3},
		{more(exIf(exTrue, exInt(2), exInt(3)), nope), 3}, {more(exField(exRecord("a", exInt(2)), "a"), nope), 3}, {more(exIn("q", exInt(2), exName("q")), nope), 3},
	} {
		wantVal(t, "let v = 2", c.e, vInt(2), impl.RunOk)
		units := []impl.Unit{unitOf("m", letDef("v", exInt(2)), letDef("a", c.e))}
		wantRun(t, units, 1+c.fuel, "m.v 2", "m.a 2")
		wantRun(t, units, c.fuel, "m.v 2", "m.a fuel")
	}
	wantVal(t, "", more(exSame(exInt(1), exInt(1)), nope), vTrue, impl.RunOk)
	// where it makes no sense, they may end it first
	loop := exCall(exName("f"))
	ahead := "fn f(): int = f()"
	wantVal(t, ahead, more(exAdd(exInt(1), exTrue), loop), impl.Val{}, impl.RunFuel)
	wantVal(t, ahead, more(nope, loop), impl.Val{}, impl.RunFuel)
	wantVal(t, ahead, more(exMod("o", "x"), exInt(1), loop), impl.Val{}, impl.RunFuel)
	wantVal(t, ahead, more(exField(exInt(1), "a"), loop), impl.Val{}, impl.RunFuel)
	wantVal(t, ahead, more(nope, nope, loop), impl.Val{}, impl.RunStuck)
	wantVal(t, "", more(exRecord("a", exInt(1)), exInt(2)), impl.Val{}, impl.RunStuck)
	wantVal(t, ahead, more(exRecord("a", exInt(1)), loop), impl.Val{}, impl.RunFuel)
}

func TestRecordsOfWrongNames(t *testing.T) {
	wantVal(t, "", exRecord("a a", exInt(1), exInt(2)), impl.Val{}, impl.RunStuck)
	wantVal(t, "", exRecord("a b a", exInt(1), exInt(2), exInt(1)), impl.Val{}, impl.RunStuck)
	odd := impl.Exp{Kind: impl.ExRecord, Names: []string{"let", "", "1"}, Kids: []impl.Exp{exInt(1), exInt(2), exInt(3)}}
	wantVal(t, "", odd, impl.Val{Kind: impl.VRecord, Names: []string{"", "1", "let"}, Kids: []impl.Val{vInt(2), vInt(3), vInt(1)}}, impl.RunOk)
	wantVal(t, "", exField(odd, ""), vInt(2), impl.RunOk)
}

func TestExpressionsOfAnotherKind(t *testing.T) {
	for _, kind := range []int{-1, 13, 99, math.MinInt, math.MaxInt} {
		wantVal(t, "", impl.Exp{Kind: kind, Text: "a", N: 3}, impl.Val{}, impl.RunStuck)
		wantVal(t, "fn f(): int = f()", impl.Exp{Kind: kind, Kids: []impl.Exp{exInt(1), exCall(exName("f")), exName("q")}}, impl.Val{}, impl.RunFuel)
		wantVal(t, "fn f(): int = f()", impl.Exp{Kind: kind, Kids: []impl.Exp{exInt(1), exName("q"), exCall(exName("f"))}}, impl.Val{}, impl.RunStuck)
		units := []impl.Unit{unitOf("m", letDef("a", impl.Exp{Kind: kind, Kids: []impl.Exp{exInt(1), exInt(2)}}))}
		wantRun(t, units, 3, "m.a stuck")
		wantRun(t, units, 2, "m.a fuel")
		wantRun(t, units, 0, "m.a fuel")
	}
}

func TestKidsInOrderMayEndItFirst(t *testing.T) {
	ahead := "fn f(): int = f()\nlet r = {a = 1}"
	for exp, want := range map[string]string{
		"f() + nope":               "fuel",
		"nope + f()":               "stuck",
		"true + f()":               "fuel",
		"f() == nope":              "fuel",
		"nope == f()":              "stuck",
		"{b = f(), a = nope}":      "fuel",
		"{b = nope, a = f()}":      "stuck",
		"1(f())":                   "fuel",
		"1(nope, f())":             "stuck",
		"f(f())":                   "fuel",
		"f(1, f())":                "fuel",
		"f(1, nope)":               "stuck",
		"f(nope, f())":             "stuck",
		"nope(f())":                "stuck",
		"f().a":                    "fuel",
		"let q = f() in nope":      "fuel",
		"let q = nope in f()":      "stuck",
		"if f() then nope else 1":  "fuel",
		"if nope then f() else 1":  "stuck",
		"if true then f() else q":  "fuel",
		"if false then f() else q": "stuck",
		"if 1 then f() else 2":     "fuel",
		"if 1 then 2 else f()":     "fuel",
		"if 1 then q else f()":     "stuck",
		"r.b.c(f())":               "stuck",
	} {
		wantIs(t, ahead, exp, want)
	}
	// fuel that is lacking for a kid ends it, too
	for exp, needed := range map[string]int{"1 + true": 3, "1(2)": 3, "1.a": 2, "if 1 then 2 else 3": 4, "nope": 1, "{a = 1}.b": 3, "f(1, 2)": 4} {
		units := unitsFrom(t, "m", "fn f(): int = 1\nlet a = "+exp)
		wantRun(t, units, needed, "m.f fn m.f", "m.a stuck")
		wantRun(t, units, needed-1, "m.f fn m.f", "m.a fuel")
	}
}

func TestDefinitionsMadeByHand(t *testing.T) {
	// one of another Kind is as a let
	for _, kind := range []int{-1, 3, 99, math.MinInt} {
		other := impl.Def{Kind: kind, Name: "a", Params: []string{"p"}, Types: listT(intT), Typed: true, Type: textT, Exp: exAdd(exInt(1), exInt(2))}
		wantRun(t, []impl.Unit{unitOf("m", other, letDef("b", exName("a"))), unitOf("n", letDef("c", exMod("m", "a")))}, muchFuel, "m.a 3", "m.b 3", "n.c 3")
		other.Exp = exName("a")
		wantRun(t, []impl.Unit{unitOf("m", other, letDef("b", exInt(1)))}, muchFuel, "m.a stuck")
		wantRun(t, []impl.Unit{unitOf("m", other)}, 0, "m.a fuel")
	}
	// a type is told nowhere, whatever else it has
	wantRun(t, []impl.Unit{unitOf("m", impl.Def{Name: "a", Exp: exInt(1), Params: []string{"x"}}, letDef("b", exName("a")))}, muchFuel, "m.b stuck")
	// the parameters of a fn are its Params
	fn := impl.Def{Kind: impl.DefFn, Name: "f", Params: []string{"p", "q"}, Exp: exAdd(exName("p"), exName("q"))}
	call := letDef("a", exCall(exName("f"), exInt(1), exInt(2)))
	wantRun(t, []impl.Unit{unitOf("m", fn, call)}, muchFuel, "m.f fn m.f", "m.a 3")
	fn.Types = listT(intT, intT, intT)
	if list := impl.Run([]impl.Unit{unitOf("m", fn)}, 0); len(list) != 1 || list[0].Val.N != 2 {
		t.Error(list)
	}
	// of two of one name the last one counts, and a parameter ahead of the function itself
	fn.Params = []string{"p", "p"}
	fn.Exp = exName("p")
	wantRun(t, []impl.Unit{unitOf("m", fn, call)}, muchFuel, "m.f fn m.f", "m.a 2")
	fn.Params, fn.Exp = []string{"f", "q"}, exName("f")
	wantRun(t, []impl.Unit{unitOf("m", fn, call)}, muchFuel, "m.f fn m.f", "m.a 1")
	// more than can be given in a text
	many := fnDef("f", "a b c d e f g h", nil, intT, exName("h"))
	wide := exCall(exName("f"))
	for i := range 8 {
		wide.Kids = append(wide.Kids, exInt(i))
	}
	wantRun(t, []impl.Unit{unitOf("m", many, letDef("x", wide))}, muchFuel, "m.f fn m.f", "m.x 7")
}

func TestValText(t *testing.T) {
	for _, c := range []struct {
		v    impl.Val
		want string
	}{
		{impl.Val{}, "0"},
		{vInt(7), "7"},
		{vInt(-7), "-7"},
		{vInt(math.MinInt), "-9223372036854775808"},
		{vInt(math.MaxInt), "9223372036854775807"},
		{vText(""), `""`},
		{vText("a b"), `"a b"`},
		{vText("\"\\\n\x00\xff"), "\"\"\\\n\x00\xff\""},
		{vTrue, "true"},
		{vFalse, "false"},
		{vRecord(""), "{}"},
		{vRecord("a", vInt(1)), "{a = 1}"},
		{vRecord("a b", vInt(1), vText("x")), `{a = 1, b = "x"}`},
		{vRecord("a b c", vRecord("d", vRecord("e", vTrue)), vRecord(""), vFn("m", "f", 3)), "{a = {d = {e = true}}, b = {}, c = fn m.f}"},
		{vRecord("a", vRecord("b c", vRecord("d e", vInt(1), vInt(2)), vInt(3))), "{a = {b = {d = 1, e = 2}, c = 3}}"},
		{vFn("m", "f", 0), "fn m.f"},
		{vFn("main", "abc", 6), "fn main.abc"},
	} {
		if got := impl.ValText(c.v); got != c.want {
			t.Errorf("ValText(%+v) = %q, want %q", c.v, got, c.want)
		}
	}
	for _, kind := range []int{-1, 5, 9, math.MinInt, math.MaxInt} {
		if got := impl.ValText(impl.Val{Kind: kind, N: 1, S: "x", Names: []string{"a"}, Kids: []impl.Val{vInt(1)}}); got != "" {
			t.Errorf("of Kind %d: %q", kind, got)
		}
		if got := impl.ValText(vRecord("a b", impl.Val{Kind: kind}, vInt(1))); got != "{a = , b = 1}" {
			t.Errorf("of Kind %d within: %q", kind, got)
		}
	}
}

func TestValTextOfWhatLacksSomething(t *testing.T) {
	for want, v := range map[string]impl.Val{
		"{a = 1, b = }":  vRecord("a b", vInt(1)),
		"{a = }":         vRecord("a"),
		"{a = 1}":        vRecord("a", vInt(1), vInt(2)),
		"{}":             vRecord("", vInt(2)),
		"{b = 1, a = 2}": vRecord("b a", vInt(1), vInt(2)),
		"fn ":            {Kind: impl.VFn, N: 4},
		"fn a":           {Kind: impl.VFn, Names: []string{"a"}},
		"fn a.b.c":       {Kind: impl.VFn, Names: []string{"a", "b", "c"}},
		"5":              {Kind: impl.VInt, N: 5, S: "x", Names: []string{"a"}, Kids: []impl.Val{{}}},
	} {
		if got := impl.ValText(v); got != want {
			t.Errorf("ValText(%+v) = %q, want %q", v, got, want)
		}
	}
}

// wantOf holds a value against types that it is of, and others that it is not of.
func wantOf(t *testing.T, env []impl.Named, v impl.Val, yes, no string) {
	t.Helper()
	for want, texts := range map[bool]string{true: yes, false: no} {
		for _, text := range strings.Split(texts, ";") {
			if text = strings.TrimSpace(text); text != "" && impl.ValFits(env, v, typeFrom(t, text)) != want {
				t.Errorf("ValFits(%v, %s, %s) = %t", envText(env), impl.ValText(v), text, !want)
			}
		}
	}
}

func TestValFitsOfPlainTypes(t *testing.T) {
	plain := "int; text; bool; {}; () -> int"
	for kind, v := range map[string]impl.Val{"int": vInt(5), "text": vText("x"), "bool": vTrue, "{}": vRecord(""), "() -> int": vFn("m", "f", 0)} {
		wantOf(t, nil, v, kind+"; any; int | text | bool | {} | (() -> text)", strings.Replace(plain, kind, "", 1))
	}
	wantOf(t, nil, vFalse, "bool; bool | int; any", "int; text; int | text")
	wantOf(t, nil, vInt(0), "int; bool | int", "bool; text; bool | text")
	for count, of := range []string{"() -> int", "(int) -> int", "(int, text) -> int"} {
		for params := range 4 {
			v := vFn("m", "f", params)
			if impl.ValFits(nil, v, typeFrom(t, of)) != (params == count) {
				t.Error("a function of", params, "to", of)
			}
		}
	}
	// whatever they take and give
	wantOf(t, nil, vFn("m", "f", 1), "(int) -> int; (text) -> {a: any}; (any) -> any; ((int) -> int) -> int; int | ((bool) -> bool)", "(int, int) -> int; int | (() -> int); {}")
}

func TestValFitsOfRecords(t *testing.T) {
	v := vRecord("a b c", vInt(1), vText("x"), vRecord("d", vTrue))
	wantOf(t, nil, v,
		"{}; {a: int}; {b: text}; {a: int, b: text}; {a: int, b: text, c: {d: bool}}; {c: {}}; {a: any, c: any}; {a: int | text}; {c: {d: bool | int} | int}; {z: int} | {a: int}; any; {b: int} | {b: text}",
		"{z: int}; {a: text}; {a: int, z: int}; {c: {d: int}}; {c: {e: bool}}; {a: {}}; int; text; bool; () -> int; {a: text} | {b: int}; {a: int, b: int} | {a: text, b: text}; int | text; {z: any}")
	wantOf(t, nil, vRecord("f", vFn("m", "f", 2)), "{f: (int, int) -> int}", "{f: () -> int}; {f: int}")
	// a union within, where each field is of another kid, is not a union of records
	wantOf(t, nil, vRecord("a b", vInt(1), vText("x")), "{a: int | text, b: int | text}", "{a: int, b: int} | {a: text, b: text}")
}

func TestValFitsOfNames(t *testing.T) {
	env := rightEnv(t, "B = bool", "I = int", "L = {n: L | bool, v: int}", "Loop = Loop", "N = L | bool", "T = {l: T, r: T} | int", "U = I | B | text", "m.F = (L) -> L", "m.I = I")
	list := func(values ...impl.Val) impl.Val {
		out := vTrue
		for _, v := range slices.Backward(values) {
			out = vRecord("n v", out, v)
		}
		return out
	}
	wantOf(t, env, vInt(1), "I; m.I; U; T; I | B; Loop; nowhere", "B; L; N; m.F; {}; L | bool")
	wantOf(t, env, vText("x"), "U; U | I; Loop | int", "I; B; I | B; T; L")
	wantOf(t, env, list(), "N; B; U; L | bool", "L; I; T")
	wantOf(t, env, list(vInt(1)), "L; N; L | int; {v: m.I}; {n: N}; {n: B}", "B; I; {n: L}; T; {v: bool}")
	wantOf(t, env, list(vInt(1), vInt(2), vInt(3)), "L; N; {n: L}; {n: {n: L, v: int}}", "{n: B}; {n: {n: {n: L}}}; T")
	wantOf(t, env, list(vInt(1), vInt(2), vText("3")), "{n: {v: int}}; {n: {n: {v: U}}}", "L; N; {n: L}")
	wantOf(t, env, vRecord("l r", vInt(1), vRecord("l r", vInt(2), vInt(3))), "T; {l: T}; {l: I, r: {l: m.I}}", "L; {r: I}")
	wantOf(t, env, vRecord("l r", vInt(1), vRecord("l r", vTrue, vInt(3))), "{l: T}; {r: {r: T}}", "T; {r: T}")
	wantOf(t, env, vFn("m", "f", 1), "m.F; m.F | int; Loop", "L; I; U")
}

func TestValFitsOfWhatIsWrong(t *testing.T) {
	v := vInt(1)
	for _, env := range [][]impl.Named{envFrom(t, "b = int", "a = int"), envFrom(t, "a = int", "a = int"), numbered(impl.MaxDefs+1, intT), {{Name: "let"}}, {{Name: "a", Type: wrongTypes[0].t}}} {
		for _, x := range listT(intT, anyT, nameT("a"), recordT("")) {
			if impl.ValFits(env, v, x) {
				t.Error("by what is no environment", x)
			}
		}
	}
	if !impl.ValFits(numbered(impl.MaxDefs, intT), v, nameT("n1059")) {
		t.Error("the greatest environment")
	}
	for _, c := range wrongTypes {
		for _, v := range []impl.Val{v, vText(""), vTrue, vRecord("a", vInt(1)), vFn("m", "f", 0), {Kind: 9}} {
			if impl.ValFits(nil, v, c.t) {
				t.Error("of what is no type:", c.what)
			}
		}
	}
	for i, x := range withinItself() {
		if impl.ValFits(nil, v, x) {
			t.Error("of a type within itself", i)
		}
	}
	// values that are none are of any, and else of what their Kind tells
	for _, kind := range []int{-1, 5, 9, math.MinInt, math.MaxInt} {
		wantOf(t, nil, impl.Val{Kind: kind, N: 1, Names: []string{"a"}, Kids: []impl.Val{v}}, "any", "int; text; bool; {}; {a: int}; (int) -> int; int | text | bool | {} | ((int) -> int)")
		wantOf(t, nil, vRecord("a b", impl.Val{Kind: kind}, v), "any; {}; {a: any}; {b: int}", "{a: int}; {a: {}}; {a: int | text | bool}")
	}
	wantOf(t, nil, vRecord("a b", v), "{}; {a: int}", "{b: int}; {b: any}; {a: int, b: any}")
	wantOf(t, nil, vRecord("b a", vText("x"), v), "{a: int, b: text}", "{a: text}")
	wantOf(t, nil, vRecord("a a", vText("x"), v), "{a: text}", "{a: int}")
	wantOf(t, nil, vRecord("", v, v), "{}", "{a: int}")
	wantOf(t, nil, impl.Val{Kind: impl.VFn, N: -1}, "any", "() -> int; (int) -> int")
	wantOf(t, nil, impl.Val{Kind: impl.VFn, N: math.MaxInt}, "any", "() -> int; (int) -> int")
	wantOf(t, nil, impl.Val{Kind: impl.VInt, S: "x", Names: []string{"a"}, Kids: []impl.Val{v}}, "int", "text; {}; {a: int}")
}
