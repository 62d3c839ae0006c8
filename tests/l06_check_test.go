package tests

import (
	"slices"
	"strconv"
	"strings"
	"testing"

	"loop.example/g00276/impl"
)

func faultsText(list []impl.Diag) string {
	var texts []string
	for _, d := range list {
		texts = append(texts, strconv.Itoa(d.Line)+":"+d.Code)
	}
	return strings.Join(texts, " ")
}

// envText has an element a line; a type that is none stands there as nothing.
func envText(env []impl.Named) string {
	var lines []string
	for _, n := range env {
		lines = append(lines, n.Name+": "+impl.TypeText(n.Type))
	}
	return strings.Join(lines, "\n")
}

func lines(list ...string) string {
	return strings.Join(list, "\n")
}

func wantBadSummary(t *testing.T, s impl.Summary, name string) {
	t.Helper()
	if s.Name != name || !s.Bad || len(s.Types) != 0 || len(s.Exports) != 0 {
		t.Errorf("the summary is %+v, want a Bad one of %q", s, name)
	}
}

// wantFaults checks a module main; it is right where nothing is wanted.
func wantFaults(t *testing.T, src, want string, imports ...impl.Summary) impl.Summary {
	t.Helper()
	return wantFaultsOf(t, "main", mustParse(t, src), want, imports...)
}

func wantFaultsOf(t *testing.T, mod string, m impl.Module, want string, imports ...impl.Summary) impl.Summary {
	t.Helper()
	wrong, s := impl.CheckModule(mod, m, imports)
	if got := faultsText(wrong); got != want {
		t.Errorf("CheckModule of\n%s= %q, want %q", impl.ShowModule(m), got, want)
	}
	if want != "" {
		wantBadSummary(t, s, mod)
	} else if s.Bad || s.Name != mod {
		t.Errorf("CheckModule of\n%s tells %+v", impl.ShowModule(m), s)
	}
	return s
}

func wantSummary(t *testing.T, s impl.Summary, types, exports string) {
	t.Helper()
	if s.Bad || envText(s.Types) != types || envText(s.Exports) != exports {
		t.Errorf("Types\n%s\nExports\n%s\nwant\n%s\nand\n%s", envText(s.Types), envText(s.Exports), types, exports)
	}
}

func wantScope(t *testing.T, mod string, m impl.Module, imports []impl.Summary, env, wrong string) {
	t.Helper()
	got, faults := impl.Scope(mod, m, imports)
	if envText(got) != env || faultsText(faults) != wrong {
		t.Errorf("Scope of\n%s=\n%s\nand %q, want\n%s\nand %q", impl.ShowModule(m), envText(got), faultsText(faults), env, wrong)
	}
}

// library is what is told of a module that is right.
func library(t *testing.T, mod, src string, imports ...impl.Summary) impl.Summary {
	t.Helper()
	return wantFaultsOf(t, mod, mustParse(t, src), "", imports...)
}

func dark(name string) impl.Summary {
	return impl.Summary{Name: name, Bad: true}
}

// expFrom reads an expression of a module that imports m and n.
func expFrom(t *testing.T, src string) impl.Exp {
	t.Helper()
	return mustParse(t, "import m import n let x = "+src).Defs[0].Exp
}

type inferring struct {
	env     []impl.Named
	imports []impl.Summary
	scope   []impl.Named
}

func (in inferring) want(t *testing.T, e impl.Exp, want, wrong string) {
	t.Helper()
	got, faults := impl.Infer(in.env, in.imports, in.scope, e)
	if impl.TypeText(got) != want || faultsText(faults) != wrong {
		t.Errorf("Infer of %s= %q, %q, want %q, %q", impl.ShowModule(moduleOf("", letDef("x", e))), impl.TypeText(got), faultsText(faults), want, wrong)
	}
}

func (in inferring) wantText(t *testing.T, src, want, wrong string) {
	t.Helper()
	in.want(t, expFrom(t, src), want, wrong)
}

func TestRightModules(t *testing.T) {
	wantSummary(t, wantFaults(t, "", ""), "", "")
	wantSummary(t, wantFaults(t, "let b = 1 let a = \"x\" let c = true let d = false let e = {}", ""), "", lines("a: text", "b: int", "c: bool", "d: bool", "e: {}"))
	s := wantFaults(t, lines(
		"type Shape = {name: text, area: int} | Point",
		"type Point = {x: int, y: int}",
		"type Unused = Shape",
		"let zero = {y = 0, x = 0}",
		"fn move(p: Point, by: int): Point = {x = p.x + by, y = p.y + by}",
		"fn same(a: Point, b: Point): bool = a.x == b.x",
		"let far: Point = move(move(zero, 1), 2)",
		"fn pick(first: bool): Shape = if first then far else {area = 1, name = \"one\" + \"two\"}",
		"let sum = let q = far in let r = q.x + q.y in r + r",
		"let all = {same = same, none = pick(same(zero, far))}",
	), "")
	wantSummary(t, s, lines("main.Point: {x: int, y: int}", "main.Shape: main.Point | {area: int, name: text}"), lines(
		"all: {none: main.Shape, same: (main.Point, main.Point) -> bool}",
		"far: main.Point",
		"move: (main.Point, int) -> main.Point",
		"pick: (bool) -> main.Shape",
		"same: (main.Point, main.Point) -> bool",
		"sum: int",
		"zero: {x: int, y: int}",
	))
}

func TestRightModulesByWhatTheirImportsTell(t *testing.T) {
	m := library(t, "m", "type T = {a: int, n: T | bool}\ntype U = T\ntype Hidden = int\nlet v = 5\nfn f(x: int): T = {a = x, n = true}\nlet u: U = f(1)")
	wantSummary(t, m, lines("m.T: {a: int, n: bool | m.T}", "m.U: m.T"), lines("f: (int) -> m.T", "u: m.U", "v: int"))
	n := library(t, "n", "import m\nlet w = m.f(2)\nfn g(x: m.U): int = x.a", m)
	wantSummary(t, n, lines("m.T: {a: int, n: bool | m.T}", "m.U: m.T"), lines("g: (m.U) -> int", "w: m.T"))
	s := wantFaults(t, "import n import m\nlet a = n.g(n.w) + n.g(m.u) + m.v\nlet b = m.f\nlet c = n.w.n\nlet d: m.T | bool = c", "", m, n)
	wantSummary(t, s, "m.T: {a: int, n: bool | m.T}", lines("a: int", "b: (int) -> m.T", "c: bool | m.T", "d: bool | m.T"))
	// n alone tells m's types as far as it has them
	s = wantFaults(t, "import n\nlet t: m.T = n.w\nlet a = t.a", "", n)
	wantSummary(t, s, "m.T: {a: int, n: bool | m.T}", lines("a: int", "t: m.T"))
	wantFaults(t, "import n\nlet t = n.h\nlet u: m.Hidden = 1", "3:type 2:name", m, n)
	wantFaults(t, "import m\nlet t: n.U = 1", "2:type", m, n)
}

func TestTypesThatLeadBackAreRight(t *testing.T) {
	s := wantFaults(t, "type L = {v: int, next: L | bool}\nlet one: L = {v = 1, next = true}\nlet two = {v = 2, next = one}\nfn len(l: L): int = l.v\nlet n = len(two) + len({v = 1, next = two})\ntype F = (F) -> F\nfn id(f: F): F = f\nlet g: F = id", "")
	wantSummary(t, s, lines("main.F: (main.F) -> main.F", "main.L: {next: bool | main.L, v: int}"),
		lines("g: main.F", "id: (main.F) -> main.F", "len: (main.L) -> int", "n: int", "one: main.L", "two: {next: main.L, v: int}"))
}

func TestFaultsOfLetsAndFns(t *testing.T) {
	wantFaults(t, "let a = 1\nlet a = 2", "2:dup")
	wantFaults(t, "let a = 1\nfn a(): int = 2\nlet a = 3", "2:dup 3:dup")
	wantFaults(t, "fn a(): int = 1\nfn a(): int = 2", "2:dup")
	// a type and a let are not beside each other
	wantFaults(t, "type a = int\nlet a: a = 1\ntype b = a\nfn b(b: b): b = b", "")
	wantFaults(t, "type T = int\nlet a = 1\ntype T = T\nlet a = a", "3:dup 4:dup")
	// the last one counts
	wantFaults(t, "let a = 1\nlet a = \"x\"\nlet b = a + 1\nlet c = a + \"y\"", "2:dup 3:plus")
	// none is known ahead of itself, but a fn
	wantFaults(t, "let a = a", "1:name")
	wantFaults(t, "let a = b\nlet b = 1", "1:name")
	wantFaults(t, "fn f(): int = g()\nfn g(): int = f()", "1:name")
	wantFaults(t, "fn f(n: int): int = f(f(n)) + n", "")
	wantFaults(t, "fn f(n: int): text = f(n) + n", "1:plus")
	// a parameter of a fn's own name, and a let's ahead
	wantFaults(t, "let a = 1\nfn f(f: text, a: bool): text = if a then f else \"x\"\nlet b = a + 1\nlet c = f(\"x\", true)", "")
	wantFaults(t, "fn f(a: int): int = a\nlet b = a", "2:name")
	wantFaults(t, "let a: int = \"x\"\nlet b = a + 1\nlet c: text = b", "1:fit 3:fit")
	wantFaults(t, "let a: int | text = 1\nlet b: int = a\nlet c: any = a\nlet d: int = c", "2:fit")
	wantFaults(t, "fn f(a: int): text = a\nlet b = f(1) + \"x\"", "1:fit")
	wantFaults(t, "fn f(a: int): {a: int} = {a = a, b = f}\nlet b: {} = f(1)", "")
	// a type's own name stands for it in a parameter, in what is given, and in what is typed
	own := "type T = {a: int}\n"
	wantFaults(t, own+"fn f(x: T): int = x.b", "2:field")
	wantFaults(t, own+"fn f(x: T): text = x.a", "2:fit")
	wantFaults(t, own+"fn f(x: int): T = f(x).b", "2:field")
	wantFaults(t, own+"fn f(x: T): T = f(x.a)", "2:fit")
	wantFaults(t, own+"let v: T = {a = 1}\nlet w = v.b\nlet x: T = {b = v.a}", "3:field 4:fit")
}

func TestFaultsComeInOrder(t *testing.T) {
	wantFaults(t, lines(
		"let a: X = y + 1",
		"type B = B",
		"type T = Z",
		"let b = z + 1",
		"type B = int",
		"fn a(p: V, q: W | X): U = r",
		"let c: int = f",
		"type C = C | int",
	), "5:dup 1:type 2:loop 3:type 6:type 6:type 6:type 6:type 8:loop 1:name 4:name 6:dup 6:name 7:name")
	wantFaults(t, "let a: int = \"\"\nlet a: int = \"\" + b", "1:fit 2:dup 2:name")
	wantFaults(t, lines(
		"fn f(a: int, b: text): int = 1",
		"let a: text =",
		"  f(",
		"    x",
		"    + y,",
		"    1(",
		"      z)",
		"  ) + (f(",
		"    \"\",",
		"    1)).q",
	), "4:name 5:name 7:name 6:call 9:fit 10:fit 8:field")
	wantFaults(t, "fn f(a: int): int = 1\nlet a: text =\n f(\n if 1 then x else true,\n f(y))", "4:name 4:if 5:name 3:args 2:fit")
	wantFaults(t, "let a: int = {a = x,\n c = y,\n b = z}.d\n == w", "1:name 2:name 3:name 1:field 4:name 1:fit")
}

func TestManyTypes(t *testing.T) {
	types := func(count int) (src, env string) {
		var all []string
		for i := range count {
			name := "T" + strconv.Itoa(100+i)
			src += "type " + name + " = {a: " + name + "}\n"
			all = append(all, "main."+name+": {a: main."+name+"}")
		}
		return src, lines(all...)
	}
	most, env := types(impl.MaxDefs)
	more, _ := types(impl.MaxDefs + 1)
	wantScope(t, "main", mustParse(t, most), nil, env, "")
	wantFaults(t, most+"let a = 1", "")
	wantScope(t, "main", mustParse(t, more), nil, "", "1:many")
	for _, rest := range []string{"", "let a = b + 1\nlet a: Q = 1", "type T100 = int\ntype Q = Q"} {
		wantFaults(t, more+rest, "1:many")
	}
	// one that does not count
	wantScope(t, "main", mustParse(t, most+"type T159 = int\ntype T100 = X"), nil, env, "61:dup 62:dup 62:type")
	lib := impl.Summary{Name: "m", Types: numbered(impl.MaxDefs, intT)}
	wantScope(t, "main", mustParse(t, "import m"), []impl.Summary{lib}, envText(lib.Types), "")
	wantScope(t, "main", mustParse(t, "import m type T = int"), []impl.Summary{lib}, "", "1:many")
	wantScope(t, "main", mustParse(t, "type T = int"), []impl.Summary{lib}, "main.T: int", "")
	few := impl.Summary{Name: "n", Types: append([]impl.Named{{Name: "a.T", Type: textT}}, lib.Types[10:]...)}
	wantScope(t, "main", mustParse(t, "import m import n"), []impl.Summary{lib, few}, "", "1:many")
	few.Types = lib.Types[10:]
	wantScope(t, "main", mustParse(t, "import m import n"), []impl.Summary{lib, few}, envText(lib.Types), "")
	lib.Types = numbered(500, intT)
	wantScope(t, "main", mustParse(t, "import m"), []impl.Summary{lib}, "", "1:many")
	wantFaults(t, "import m\nlet a = b", "1:many", lib)
}

func TestManyLetsAndFns(t *testing.T) {
	most, exports := "", []string{}
	for i := range impl.MaxDefs {
		name := "a" + strconv.Itoa(100+i)
		if i%2 == 0 {
			most += "let " + name + " = 1\n"
			exports = append(exports, name+": int")
		} else {
			most += "fn " + name + "(): int = 1\n"
			exports = append(exports, name+": () -> int")
		}
	}
	wantSummary(t, wantFaults(t, most, ""), "", lines(exports...))
	wantFaults(t, most+"let z = 1", "1:many")
	wantFaults(t, most+"fn z(): int = 1", "1:many")
	wantFaults(t, most+"type T = int", "")
	// where something else is wrong, that alone
	wantFaults(t, most+"let z = z", "61:name")
	wantFaults(t, most+"let a100 = 1", "61:dup")
	wantFaults(t, most+"let z = 1\ntype T = T", "62:loop")
	wantFaults(t, most+"let z = 1\nlet y = 2\nlet x: text = 3", "63:fit")
}

func TestModulesOfNoName(t *testing.T) {
	for _, mod := range append([]string{"let", "any", "in"}, wrongNames...) {
		for _, src := range []string{"", "let a = 1", "let a = b", "type T = T", "import m let a: m.T = 1"} {
			wantFaultsOf(t, mod, mustParse(t, src), "1:many")
			wantScope(t, mod, mustParse(t, src), nil, "", "1:many")
		}
	}
	wantFaultsOf(t, "m.T", mustParse(t, "let a = 1"), "1:many")
	wantSummary(t, wantFaultsOf(t, "abcdefghijkl", mustParse(t, "type T = int let a: T = 1"), ""), "abcdefghijkl.T: int", "a: abcdefghijkl.T")
}

func TestScopeHasImportedAndOwnTypes(t *testing.T) {
	m := impl.Summary{Name: "m", Types: envFrom(t, "k.T = text", "m.T = {t: k.T}")}
	n := impl.Summary{Name: "n", Types: envFrom(t, "k.T = int", "m.T = bool", "n.T = {t: m.T}"), Exports: envFrom(t, "v = n.T")}
	src := "type Z = T | m.T | int\ntype T = {b: Z, a: main.T}\nlet a = 1"
	own := lines("main.T: {a: main.T, b: main.Z}", "main.Z: int | m.T | main.T")
	of := lines("k.T: text", "m.T: {t: k.T}")
	wantScope(t, "main", mustParse(t, "import m "+src), []impl.Summary{n, m}, of+"\n"+own, "")
	wantScope(t, "main", mustParse(t, "import m import n "+src), []impl.Summary{n, m}, of+"\n"+own+"\nn.T: {t: m.T}", "")
	// the first of the Imports, not of the summaries, is ahead
	wantScope(t, "main", mustParse(t, "import n import m "+src), []impl.Summary{m, n}, lines("k.T: int", "m.T: bool")+"\n"+own+"\nn.T: {t: m.T}", "")
	wantScope(t, "main", mustParse(t, src), []impl.Summary{m, n}, own, "1:type")
	wantScope(t, "main", mustParse(t, "import m import n"), nil, "", "")
	wantScope(t, "main", impl.Module{}, []impl.Summary{m, n}, "", "")
	// in order of their names, wherever they stand
	wantScope(t, "a", mustParse(t, "import m type T = int type A = T"), []impl.Summary{m}, lines("a.A: a.T", "a.T: int", "k.T: text", "m.T: {t: k.T}"), "")
	wantScope(t, "x", mustParse(t, "import m type T = int"), []impl.Summary{m}, lines("k.T: text", "m.T: {t: k.T}", "x.T: int"), "")
}

func TestSeveralSummariesOfOneName(t *testing.T) {
	a := impl.Summary{Name: "m", Types: envFrom(t, "m.T = text"), Exports: envFrom(t, "v = m.T")}
	b := impl.Summary{Name: "m", Types: envFrom(t, "m.T = int", "m.U = int"), Exports: envFrom(t, "v = int", "w = int")}
	src := "import m\nlet a = m.v + \"x\"\nlet b = m.w\nlet c: m.U = 1"
	wantFaults(t, src, "4:type 3:name", a)
	wantFaults(t, src, "4:type 3:name", a, b, dark("m"))
	wantFaults(t, src, "2:plus", b, a)
	wantFaults(t, src, "", dark("m"), a, b)
	wantFaults(t, src, "4:type 3:name", impl.Summary{Name: "n"}, a, dark("m"))
	wantScope(t, "main", mustParse(t, "import m"), []impl.Summary{b, a}, lines("m.T: int", "m.U: int"), "")
	wantScope(t, "main", mustParse(t, "import m"), []impl.Summary{dark("m"), b, a}, "", "")
	// of several types of one name in one summary the first, too
	c := impl.Summary{Name: "m", Types: envFrom(t, "m.T = text", "m.T = int", "m.S = bool", "m.T = bool")}
	wantScope(t, "main", mustParse(t, "import m"), []impl.Summary{c}, lines("m.S: bool", "m.T: text"), "")
}

func TestDupOfTypes(t *testing.T) {
	wantScope(t, "main", mustParse(t, "type T = int\ntype U = T\ntype T = text\ntype U = T\ntype T = bool"), nil, lines("main.T: int", "main.U: main.T"), "3:dup 4:dup 5:dup")
	// what is wrong with one that does not count is told, but a loop
	wantScope(t, "main", mustParse(t, "type T = int\ntype T = X\ntype T = main.T\ntype U = U\ntype U = int"), nil, lines("main.T: int", "main.U: main.U"), "2:dup 3:dup 5:dup 2:type 4:loop")
	// a type that the imports have of this module stands ahead of its own
	m := impl.Summary{Name: "m", Types: envFrom(t, "main.T = text", "main.U = int")}
	wantScope(t, "main", mustParse(t, "import m\ntype T = int\ntype V = T"), []impl.Summary{m}, lines("main.T: text", "main.U: int", "main.V: main.T"), "2:dup")
}

func TestTypesThatTheEnvironmentHasNot(t *testing.T) {
	m := library(t, "m", "type T = int\nlet v: T = 1")
	wantScope(t, "main", mustParse(t, "type T = X"), nil, "main.T: main.X", "1:type")
	wantScope(t, "main", mustParse(t, "type T = {a: X, b: (Y) -> X | Z, c: T}"), nil, "main.T: {a: main.X, b: ((main.Y) -> main.X) | main.Z, c: main.T}", "1:type 1:type 1:type")
	wantScope(t, "main", mustParse(t, "type T = int\nlet a: X = 1\nlet b: T = 1\nlet c = 1\nlet d: main.X | Y = 1\nlet e: X | main.X = 1"), nil, "main.T: int", "2:type 5:type 5:type 6:type")
	// each of the types of one definition has its own
	wantScope(t, "main", mustParse(t, "fn f(a: X, b: X | Y, c: int): X = a\nfn g(): X = 1\nfn h(a: X): int = 1"), nil, "", "1:type 1:type 1:type 1:type 2:type 3:type")
	for _, src := range []string{"let a: m.T = 1", "type A = {a: m.T}", "fn f(a: m.T): int = a"} {
		wantFaults(t, "import m\n"+src, "", m)
		wantFaults(t, "import m\n"+src, "", dark("m"))
		wantFaults(t, "import m\n"+src, "")
		wantFaults(t, "import n\n"+src, "2:type", m)
		wantFaults(t, "import n\n"+src, "2:type", dark("m"))
		wantFaults(t, src, "1:type", m, dark("m"))
	}
	wantFaults(t, "import m\nlet a: m.U = 1\nlet b: m.V | m.T | m.U = 1", "2:type 3:type 3:type", m)
	wantFaults(t, "import m import n\nlet a: m.U | n.U | k.U = 1", "2:type 2:type", m, dark("n"))
	wantFaults(t, "import m import n\nlet a: m.U | n.U | k.U = 1", "2:type", dark("m"))
	// a name of its own is not another module's
	wantFaults(t, "import main\nlet a: X = 1\nlet b: main.X = 1", "2:type 3:type")
	wantFaults(t, "import main\nlet a: X = 1\nlet b: main.Y = 1", "2:type 3:type", dark("main"))
	// what is not there is any from there on
	wantFaults(t, "let a: X = 1\nlet b = a.x + a(1)\nlet c: X = {}\ntype T = X\nlet d: T = true", "1:type 3:type 4:type")
}

func TestLoopsOfTypes(t *testing.T) {
	m := impl.Summary{Name: "m", Types: envFrom(t, "m.L = m.L", "m.M = n.T | int", "m.R = {a: n.T}", "m.T = int")}
	for _, c := range []struct{ src, wrong string }{
		{"type T = T", "1:loop"},
		{"type T = T | int", "1:loop"},
		{"type T = main.T | int", "1:loop"},
		{"type T = U\ntype U = V\ntype V = T", "1:loop 2:loop 3:loop"},
		{"type T = U\ntype U = U | int\ntype V = int", "1:loop 2:loop"},
		{"type T = {a: T}\ntype U = (U) -> U\ntype V = T | U | {v: V}", ""},
		// a type was told of it, or of one to which it comes
		{"type T = X", "1:type"},
		{"type T = T | X", "1:type"},
		{"type T = U\ntype U = X", "1:loop 2:type"},
		{"type T = {a: U}\ntype U = X", "2:type"},
		{"type T = T | {a: X}", "1:type"},
		{"type T = U\ntype U = T | {a: X}", "1:loop 2:type"},
		// where one comes to a module of which nothing is known, by whatever way
		{"import n\ntype T = n.T", ""},
		{"import n\ntype T = T | n.T", ""},
		{"import n\ntype T = T | {a: n.T}", ""},
		{"import n\ntype T = T | U\ntype U = {a: V}\ntype V = (int) -> n.T", ""},
		{"import n\ntype T = U\ntype U = T | n.T\ntype V = V", "4:loop"},
		{"import n\ntype T = T | {a: X, n: n.T}", "2:type"},
		// what is in the environment
		{"import m\ntype T = m.T", ""},
		{"import m\ntype T = m.L\ntype U = {a: m.L}", "2:loop"},
		{"import m\ntype T = m.M", "2:loop"},
		{"import m import n\ntype T = m.M\ntype U = U | m.R\ntype V = V | m.T", "4:loop"},
		{"import m\ntype T = T | m.T", "2:loop"},
		{"import m\ntype U = U | m.R", "2:loop"},
	} {
		_, got := impl.Scope("main", mustParse(t, c.src), []impl.Summary{m})
		if faultsText(got) != c.wrong {
			t.Errorf("Scope of\n%s\ntells %q, want %q", c.src, faultsText(got), c.wrong)
		}
		_, got = impl.Scope("main", mustParse(t, c.src), []impl.Summary{m, dark("n")})
		if faultsText(got) != c.wrong {
			t.Errorf("with a Bad summary Scope of\n%s\ntells %q, want %q", c.src, faultsText(got), c.wrong)
		}
	}
	// the module is one of the Imports, and nothing is known of it
	wantScope(t, "main", mustParse(t, "import main\ntype T = T"), nil, "main.T: main.T", "")
	wantScope(t, "main", mustParse(t, "import main\ntype T = T"), []impl.Summary{{Name: "main"}}, "main.T: main.T", "2:loop")
}

func TestScopeOfDefinitionsMadeByHand(t *testing.T) {
	x := nameT("X")
	typed := impl.Def{Kind: 7, Name: "a", Line: 5, Types: listT(x, intT), Typed: true, Type: x}
	untyped := impl.Def{Kind: impl.DefFn, Name: "b", Line: 6, Types: listT(fnT(x)), Type: x}
	of := impl.Def{Kind: impl.DefType, Name: "T", Line: -7, Types: listT(x, x), Typed: true, Type: nameT("T")}
	wantScope(t, "main", moduleOf("", typed, untyped, of), nil, "main.T: main.T", "5:type 5:type 6:type -7:type -7:type")
	of.Types = nil
	wantScope(t, "main", moduleOf("", of), nil, "main.T: main.T", "-7:loop")
	// what is not TypeOk stands as it is, with the names in it
	for _, c := range wrongTypes {
		m := moduleOf("", typeDef("T", c.t), typeDef("U", intT))
		env, wrong := impl.Scope("main", m, nil)
		want := strings.TrimSpace(strings.Repeat("0:type ", len(impl.TypeNames(c.t))))
		if len(env) != 2 || !sameType(env[0].Type, c.t) || faultsText(wrong) != want {
			t.Errorf("%s: Scope = %v, %q", c.what, env, faultsText(wrong))
		}
	}
	for i, x := range withinItself() {
		m := moduleOf("m m", typeDef("T", x), impl.Def{Kind: impl.DefFn, Types: listT(x), Typed: true, Type: x})
		env, wrong := impl.Scope("main", m, []impl.Summary{{Name: "m", Types: []impl.Named{{Name: "m.T", Type: x}}}})
		if len(env) != 2 || !sameAllTheWay(listT(env[0].Type, env[1].Type), listT(x, x)) || len(wrong) != 3*len(impl.TypeNames(x)) {
			t.Error("what is within itself", i, faultsText(wrong))
		}
	}
	// a name without a dot is of no other module
	wantScope(t, "main", moduleOf("n", typedLet("a", unionT(nameT("n"), nameT("n.T")), exInt(1)), typedLet("b", unionT(nameT("n.T"), nameT("n")), exInt(1))), nil, "", "0:type 0:type")
	// names that are none
	wantScope(t, "main", moduleOf("", typeDef("", intT), typeDef("let", textT), typeDef("", boolT)), nil, lines("main.: int", "main.let: text"), "0:dup")
	wantScope(t, "main", moduleOf("m m", typeDef("T", nameT("m.U"))), []impl.Summary{{Name: "m", Types: envFrom(t, "m.T = int", "m.U = m.T")}}, lines("m.T: int", "m.U: m.T", "main.T: m.U"), "")
	// a summary that is Bad and has types all the same
	full := impl.Summary{Name: "m", Bad: true, Types: envFrom(t, "m.T = int")}
	wantScope(t, "main", moduleOf("m", typeDef("T", unionT(nameT("m.T"), nameT("m.U")))), []impl.Summary{full}, lines("m.T: int", "main.T: m.T | m.U"), "")
}

func someScope(t *testing.T) inferring {
	return inferring{
		env:     rightEnv(t, "B = bool", "F = (N, text) -> T", "L = L", "N = int", "O = N | text", "P = {a: int} | {a: text, b: N}", "S = text", "T = {a: N, t: T}", "m.T = {a: int}"),
		imports: []impl.Summary{{Name: "m", Types: envFrom(t, "m.T = {a: int}"), Exports: envFrom(t, "f = (int) -> m.T", "v = m.T")}, dark("n")},
		scope:   envFrom(t, "i = int", "s = text", "b = bool", "y = any", "r = {a: int, b: text}", "f = (int, text) -> bool", "B = B", "F = F", "L = L", "N = N", "O = O", "P = P", "S = S", "T = T", "u = int | text", "x = int", "x = text", "none = nowhere"),
	}
}

func TestInferOfPlainExpressions(t *testing.T) {
	in := someScope(t)
	in.wantText(t, "1", "int", "")
	in.wantText(t, "\"a\"", "text", "")
	in.wantText(t, "true", "bool", "")
	in.wantText(t, "false", "bool", "")
	in.wantText(t, "i", "int", "")
	in.wantText(t, "T", "T", "")
	in.wantText(t, "none", "nowhere", "")
	in.wantText(t, "q", "any", "1:name")
	in.wantText(t, "\n\nq", "any", "3:name")
	// of several of one name the last one counts
	in.wantText(t, "x", "text", "")
	in.wantText(t, "i == q", "bool", "1:name")
	in.wantText(t, "f == T", "bool", "")
	inferring{}.wantText(t, "i", "any", "1:name")
}

func TestInferOfNamesOfModules(t *testing.T) {
	in := someScope(t)
	in.wantText(t, "m.v", "m.T", "")
	in.wantText(t, "m.f", "(int) -> m.T", "")
	in.wantText(t, "\nm.w", "any", "2:name")
	in.wantText(t, "\nm.T", "any", "2:name")
	in.wantText(t, "n.v", "any", "")
	in.wantText(t, "n.v.x(q)", "any", "1:name")
	inferring{}.wantText(t, "m.v", "any", "")
	in.want(t, exMod("k", "v"), "any", "")
	in.want(t, impl.Exp{Kind: impl.ExMod, Text: "m", Line: 4}, "any", "4:name")
	in.want(t, impl.Exp{Kind: impl.ExMod, Text: "n", Line: 4}, "any", "")
	in.want(t, exMod("m", ""), "any", "0:name")
	// what is called is not what is in scope
	in.scope = append(in.scope, envFrom(t, "m = {v: int}", "v = text")...)
	in.wantText(t, "m.v", "m.T", "")
	in.wantText(t, "m", "{v: int}", "")
	in.imports = append([]impl.Summary{{Name: "m", Exports: envFrom(t, "v = int", "v = text")}}, in.imports...)
	in.wantText(t, "m.v", "int", "")
	in.wantText(t, "m.f", "any", "1:name")
	in.imports = append([]impl.Summary{{Name: "m", Bad: true, Exports: envFrom(t, "v = int")}}, in.imports...)
	in.wantText(t, "m.v", "any", "")
	in.wantText(t, "m.f", "any", "")
}

func TestInferOfFieldsAndRecords(t *testing.T) {
	in := someScope(t)
	in.wantText(t, "r.a", "int", "")
	in.wantText(t, "r.b", "text", "")
	in.wantText(t, "r.c", "any", "1:field")
	in.wantText(t, "y.c", "any", "")
	in.wantText(t, "none.c.d", "any", "")
	in.wantText(t, "L.c", "any", "")
	in.wantText(t, "T.a", "N", "")
	in.wantText(t, "T.t.t.t.a", "N", "")
	in.wantText(t, "P.a", "int | text", "")
	in.wantText(t, "P.b", "any", "1:field")
	in.wantText(t, "m.v.a", "int", "")
	for _, src := range []string{"1.a", "s.a", "b.a", "f.a", "u.a", "O.a"} {
		in.wantText(t, src, "any", "1:field")
	}
	in.wantText(t, "r\n.c\n.d\n.e", "any", "1:field")
	in.wantText(t, "{a = r.\nc,\nd = 1.e}", "{a: any, d: any}", "1:field 3:field")
	in.wantText(t, "{}", "{}", "")
	in.wantText(t, "{c = 1, a = T, b = {d = f}}", "{a: T, b: {d: (int, text) -> bool}, c: int}", "")
	in.wantText(t, "{c = 1, a = T, b = {d = f}}.b.d", "(int, text) -> bool", "")
	in.want(t, exRecord("a a", exInt(1), exInt(2)), "any", "")
	in.want(t, exRecord("let", exInt(1)), "any", "")
	in.want(t, exRecord("a", exInt(1), exName("q")), "any", "0:name")
	in.want(t, exRecord("", exName("q")), "any", "0:name")
}

func TestInferOfIfs(t *testing.T) {
	in := someScope(t)
	in.wantText(t, "if b then 1 else 2", "int", "")
	in.wantText(t, "if b then \"\" else 2", "int | text", "")
	in.wantText(t, "if b then u else true", "bool | int | text", "")
	in.wantText(t, "if b then N else i", "N | int", "")
	in.wantText(t, "if b then y else i", "any", "")
	in.wantText(t, "if b then none else i", "int | nowhere", "")
	for _, asked := range []string{"b", "B", "y", "none", "L", "1 == 2", "n.v", "if b then B else true"} {
		in.wantText(t, "if "+asked+" then 1 else 2", "int", "")
	}
	for _, asked := range []string{"1", "s", "r", "f", "u", "T", "if b then 1 else true"} {
		in.wantText(t, "\nif\n"+asked+"\nthen 1 else 2", "int", "2:if")
	}
	in.wantText(t, "if 1\nthen q\nelse p", "any", "2:name 3:name 1:if")
	in.wantText(t, "if q\nthen 1\nelse p", "any", "1:name 3:name")
}

func TestInferOfSums(t *testing.T) {
	in := someScope(t)
	kinds := map[string]string{"1": "int", "i": "int", "N": "int", "s": "text", "S": "text", "\"\"": "text", "y": "any", "none": "any", "L": "any", "n.v": "any", "b": "-", "B": "-", "r": "-", "T": "-", "f": "-", "u": "-", "O": "-", "P": "-", "{}": "-"}
	for a, kindA := range kinds {
		for b, kindB := range kinds {
			want, wrong := "any", ""
			switch {
			case kindA == "-" || kindB == "-":
				wrong = "1:plus"
			case kindA == kindB:
				want = kindA
			case kindA != "any" && kindB != "any":
				wrong = "1:plus"
			}
			in.wantText(t, a+" +\n"+b, want, wrong)
		}
	}
	in.wantText(t, "1 + 2 + 3 + N", "int", "")
	// a sum that is wrong is any
	in.wantText(t, "1 + s + 2 + s", "any", "1:plus")
	in.wantText(t, "1 + s + true", "any", "1:plus 1:plus")
	in.wantText(t, "p +\nq + s + b", "any", "1:name 2:name 1:plus")
}

func TestInferOfLetsWithin(t *testing.T) {
	in := someScope(t)
	in.wantText(t, "let q = 1 in q + q", "int", "")
	in.wantText(t, "let i = \"\" in i + i", "text", "")
	in.wantText(t, "let x = x + \"\" in let x = {a = x} in x", "{a: text}", "")
	in.wantText(t, "(let q = 1 in q) + q", "any", "1:name")
	in.wantText(t, "let q = q in q", "any", "1:name")
	in.wantText(t, "let x = 1 in let x = true in x", "bool", "")
	in.wantText(t, "{a = let x = 1 in x, b = x}", "{a: int, b: text}", "")
	in.wantText(t, "let q =\nz in\nlet w = z in\nq + w", "any", "2:name 3:name")
	in.wantText(t, "let m = 1 in m + m", "int", "")
	in.want(t, exIn("", exInt(1), exName("")), "int", "")
}

func TestInferOfCalls(t *testing.T) {
	in := someScope(t)
	in.wantText(t, "f(1, \"\")", "bool", "")
	in.wantText(t, "F(1, S)", "T", "")
	in.wantText(t, "F(N, s).t.a", "N", "")
	in.wantText(t, "m.f(1).a", "int", "")
	// of any
	for _, src := range []string{"y()", "y(1, 2, 3, 4, 5, 6)", "y(1)(2).a(3)", "none(1)", "L(1)", "n.v(1)"} {
		in.wantText(t, src, "any", "")
	}
	in.wantText(t, "y(q,\n1.a)", "any", "1:name 2:field")
	// of a function with too many or too few given, whatever these are
	for _, given := range []string{"", "1", "\"\"", "1, \"\", 2", "b, b, b, b, b, b"} {
		in.wantText(t, "\nf(\n"+given+")", "bool", "2:args")
	}
	in.wantText(t, "m.f()", "m.T", "1:args")
	in.wantText(t, "f(q,\n1.a,\n2)", "bool", "1:name 2:field 1:args")
	// of a function with what does not fit, at its own line
	in.wantText(t, "f(\n\"\",\n\"\")", "bool", "2:fit")
	in.wantText(t, "f(\n1,\n2)", "bool", "3:fit")
	in.wantText(t, "f(\nb,\n(b))", "bool", "2:fit 3:fit")
	in.wantText(t, "f(\nu,\n(u))", "bool", "2:fit 3:fit")
	in.wantText(t, "f(\ny,\nnone)", "bool", "")
	in.wantText(t, "F(\nO,\nO).a", "N", "2:fit 3:fit")
	in.wantText(t, "f(\n1(2)\n,\n1)", "bool", "2:call 4:fit")
	in.wantText(t, "f(f(\nb, s), s)", "bool", "2:fit 1:fit")
	// of what is no function
	for _, src := range []string{"1(2)", "s()", "b(1)", "r(1)", "u(1)", "T(1)", "{}(1)", "P()", "(if b then f else F)(1, s)", "(if b then f else 1)(1, s)"} {
		in.wantText(t, src, "any", "1:call")
	}
	in.wantText(t, "1(\nq)(\np)", "any", "2:name 1:call 3:name")
}

func TestInferOfExpressionsWithTooFewKids(t *testing.T) {
	in := someScope(t)
	wrong := impl.Exp{Kind: impl.ExName, Text: "q", Line: 3}
	needed := map[int]int{impl.ExField: 1, impl.ExCall: 1, impl.ExAdd: 2, impl.ExSame: 2, impl.ExIn: 2, impl.ExIf: 3}
	for kind, count := range needed {
		for few := range count {
			e := impl.Exp{Kind: kind, Text: "a", Line: 2, Kids: slices.Repeat([]impl.Exp{wrong}, few)}
			in.want(t, e, "any", "")
			in.want(t, exRecord("a b", wrong, e), "{a: any, b: any}", "3:name")
		}
		enough := impl.Exp{Kind: kind, Text: "a", Line: 2, Kids: slices.Repeat([]impl.Exp{wrong}, count)}
		if _, faults := impl.Infer(in.env, in.imports, in.scope, enough); len(faults) != count {
			t.Errorf("with enough kids %q is wrong", faultsText(faults))
		}
	}
	in.want(t, exRecord("a", []impl.Exp{}...), "any", "")
	in.want(t, exRecord("a b", wrong), "any", "")
	// more than it needs
	in.want(t, impl.Exp{Kind: impl.ExIf, Kids: []impl.Exp{exTrue, exInt(1), exInt(2), wrong}}, "int", "3:name")
	in.want(t, impl.Exp{Kind: impl.ExAdd, Kids: []impl.Exp{exInt(1), exInt(2), wrong}}, "int", "3:name")
	in.want(t, impl.Exp{Kind: impl.ExField, Text: "a", Kids: []impl.Exp{exName("r"), wrong}}, "int", "3:name")
	in.want(t, impl.Exp{Kind: impl.ExIn, Text: "q", Kids: []impl.Exp{exInt(1), wrong, wrong}}, "int", "3:name")
	in.want(t, impl.Exp{Kind: impl.ExInt, Kids: []impl.Exp{wrong}}, "int", "3:name")
	in.want(t, impl.Exp{Kind: impl.ExName, Text: "i", Kids: []impl.Exp{wrong}}, "int", "3:name")
}

func TestInferOfAnotherKind(t *testing.T) {
	in := someScope(t)
	for _, kind := range []int{-1, 13, 99, -1 << 63} {
		in.want(t, impl.Exp{Kind: kind, Line: 9, Text: "a", Names: []string{"b"}}, "any", "")
		kids := []impl.Exp{{Kind: impl.ExName, Text: "q", Line: 3}, exInt(1), {Kind: kind, Kids: []impl.Exp{{Kind: impl.ExField, Line: 4, Kids: []impl.Exp{exInt(1)}}}}}
		in.want(t, impl.Exp{Kind: kind, Line: 9, Kids: kids}, "any", "3:name 4:field")
	}
}

func TestInferByWhatIsNoEnvironment(t *testing.T) {
	for _, env := range [][]impl.Named{envFrom(t, "b = int", "a = int"), numbered(impl.MaxDefs+1, intT), {{Name: "let"}}, {{Name: "a", Type: wrongTypes[0].t}}} {
		in := inferring{env: env, scope: envFrom(t, "f = (int) -> int", "y = any", "a = a", "n = n1000")}
		in.wantText(t, "if true then 1 else 2", "int", "1:if")
		in.wantText(t, "f(1)", "int", "1:fit")
		in.wantText(t, "f()", "int", "1:args")
		in.wantText(t, "{a = 1}.a", "any", "1:field")
		in.wantText(t, "y.a", "any", "1:field")
		in.wantText(t, "y(1) + 1", "any", "")
		in.wantText(t, "1 == 2", "bool", "")
	}
	// Open goes by it all the same
	in := inferring{env: envFrom(t, "b = int", "a = b"), scope: envFrom(t, "a = a")}
	in.wantText(t, "a + 1", "int", "")
}

func TestInferOfTypesThatAreNone(t *testing.T) {
	for _, c := range wrongTypes {
		in := inferring{scope: []impl.Named{{Name: "x", Type: c.t}, {Name: "f", Type: fnT(intT, intT)}}, imports: []impl.Summary{{Name: "m", Exports: []impl.Named{{Name: "x", Type: c.t}}}}}
		for _, e := range []impl.Exp{exName("x"), exMod("m", "x"), exIn("y", exName("x"), exName("y"))} {
			if got, wrong := impl.Infer(in.env, in.imports, in.scope, e); !sameType(got, c.t) || len(wrong) != 0 {
				t.Errorf("%s: %v, %q", c.what, got, faultsText(wrong))
			}
		}
		in.wantText(t, "x.a", "any", "1:field")
		in.wantText(t, "{a = x}", "any", "")
		in.wantText(t, "if x then 1 else 2", "int", "1:if")
		in.wantText(t, "if true then x else 2", "any", "")
		in.wantText(t, "f(x)", "int", "1:fit")
		in.wantText(t, "x == x", "bool", "")
	}
	in := inferring{scope: []impl.Named{{Name: "x", Type: fnT()}}}
	in.wantText(t, "x()", "any", "1:call")
	for i, x := range withinItself() {
		scope := []impl.Named{{Name: "x", Type: x}}
		if got, wrong := impl.Infer(nil, nil, scope, exName("x")); !sameAllTheWay(listT(got), listT(x)) || len(wrong) != 0 {
			t.Error("what is within itself is another one, or shared", i)
		}
		in := inferring{scope: scope}
		in.wantText(t, "x.a", "any", "1:field")
		in.wantText(t, "{a = x}", "any", "")
		in.wantText(t, "if x then x else 2", "any", "1:if")
	}
}

func deepText(times int, open, shut string) string {
	return strings.Repeat(open, times) + "int" + strings.Repeat(shut, times)
}

func TestRecordsThatAreTooDeepAreAny(t *testing.T) {
	nested := func(times int) string {
		return nestedExp(times, "{a = ", "1", "}")
	}
	in := inferring{}
	in.wantText(t, nested(12), deepText(12, "{a: ", "}"), "")
	in.wantText(t, nested(13), "any", "")
	in.wantText(t, nested(14), "{a: any}", "")
	in.scope = []impl.Named{{Name: "x", Type: typeFrom(t, deepText(12, "{a: ", "}"))}}
	in.wantText(t, "if true then x else 1", "any", "")
	in.wantText(t, "if true then x else x", deepText(12, "{a: ", "}"), "")
	in.wantText(t, "if true then x.a else 1", "int | "+deepText(11, "{a: ", "}"), "")
	in.wantText(t, "{a = x}.b", "any", "")
	in.wantText(t, "{a = x.a}.b", "any", "1:field")
}

func TestFnsOfTypesThatAreTooDeep(t *testing.T) {
	deep := deepText(12, "{a: ", "}")
	s := wantFaults(t, "fn f(x: "+deep+"): int = x.a.a.a.a.a.a.a.a.a.a.a.a\nlet a = f(1, 2) + \"x\"\nfn g(): "+deep+" = g()\nlet b = f", "")
	wantSummary(t, s, "", lines("a: any", "b: any", "f: any", "g: any"))
	wantFaults(t, "fn f(x: "+deep+"): int = x.b", "1:field")
	wantFaults(t, "fn f(): "+deep+" = 1", "1:fit")
	deep = deepText(11, "{a: ", "}")
	s = wantFaults(t, "fn f(x: "+deep+"): int = 1\nfn g(): "+deep+" = g()", "")
	wantSummary(t, s, "", lines("f: ("+deep+") -> int", "g: () -> "+deep))
	wantFaults(t, "fn f(x: "+deep+"): int = 1\nlet a = f(1)", "2:fit")
}

func TestWhatIsClosed(t *testing.T) {
	m := library(t, "m", "type T = {a: int}\nlet v: T = {a = 1}")
	src := lines("import m import n",
		"type A = {a: n.T, b: n.T | int, c: (n.T) -> m.T, d: m.T | B}",
		"type B = n.U",
		"type C = A | n.T",
		"type D = D | n.T",
		"type E = {d: D | A | text}",
		"let a: A = n.v",
		"let b: {x: B | int | m.T} = n.v",
		"let c: C = n.v",
		"let e: () -> E = n.v",
		"let f = n.v",
		"let g: n.T = 1",
		"fn h(x: n.T | int, y: {z: n.T}): n.T | text = x",
		"let i = if true then a else g",
	)
	types := lines(
		"m.T: {a: int}",
		"main.A: {a: any, b: any, c: (any) -> m.T, d: m.T | main.B}",
		"main.B: any",
		"main.C: any",
		"main.D: any",
		"main.E: {d: main.A | main.D | text}",
	)
	exports := lines(
		"a: main.A",
		"b: {x: int | m.T | main.B}",
		"c: main.C",
		"e: () -> main.E",
		"f: any",
		"g: any",
		"h: (any, {z: any}) -> any",
		"i: any",
	)
	wantSummary(t, wantFaults(t, src, "", m), types, exports)
	wantSummary(t, wantFaults(t, src, "", dark("n"), m), types, exports)
	// what was reached by a union alone that is any now, is not there
	s := wantFaults(t, "import n\ntype A = int\ntype B = A | n.T\ntype C = {c: A}\nlet b: B = 1\nlet d: C | n.T = 1\nlet e: {x: A | n.T} = {x = 1}", "")
	wantSummary(t, s, "main.B: any", lines("b: main.B", "d: any", "e: {x: any}"))
	s = wantFaults(t, "import n\ntype D = {d: n.T}\ntype L = L | D\nlet l: L = {d = 1}\nlet d: {x: L | {x: n.T | int}} = {x = l}", "")
	wantSummary(t, s, lines("main.D: {d: any}", "main.L: main.D | main.L"), lines("d: {x: main.L | {x: any}}", "l: main.L"))
}

func TestSummariesTellWhatIsReachedAlone(t *testing.T) {
	m := library(t, "m", "type T = {a: U}\ntype U = int\ntype V = U\nlet v: T = {a = 1}\nlet w: V = 1")
	s := wantFaults(t, "import m\ntype A = m.V\ntype B = {t: C}\ntype C = (D) -> m.T\ntype D = D2 | int\ntype D2 = B\nlet a = m.v.a\nlet b = 1", "", m)
	wantSummary(t, s, "m.U: int", lines("a: m.U", "b: int"))
	s = wantFaults(t, "import m\ntype A = m.V\ntype B = {t: C}\ntype C = (D) -> m.T\ntype D = D2 | int\ntype D2 = B\nfn f(b: B): int = 1", "", m)
	wantSummary(t, s, lines("m.T: {a: m.U}", "m.U: int", "main.B: {t: main.C}", "main.C: (main.D) -> m.T", "main.D: int | main.D2", "main.D2: main.B"), "f: (main.B) -> int")
	wantSummary(t, wantFaults(t, "import m\ntype A = m.V\ntype B = {t: A}", "", m), "", "")
}

func TestModulesMadeByHand(t *testing.T) {
	// a definition of another Kind is as a let
	other := impl.Def{Kind: 7, Name: "a", Line: 2, Params: []string{"p"}, Types: listT(textT), Exp: exAdd(exInt(1), exInt(2))}
	wantSummary(t, wantFaultsOf(t, "main", moduleOf("", other, letDef("b", exName("a"))), ""), "", lines("a: int", "b: int"))
	other.Typed, other.Type = true, textT
	wantFaultsOf(t, "main", moduleOf("", other, letDef("a", exName("p"))), "2:fit 0:dup 0:name")
	other.Kind, other.Exp = -1, exName("a")
	wantFaultsOf(t, "main", moduleOf("", other), "0:name")
	// a fn that is not Typed, has other counts of parameters and types, or two of one name
	fn := impl.Def{Kind: impl.DefFn, Name: "f", Line: 3, Types: listT(textT), Type: intT, Exp: exText("x")}
	wantSummary(t, wantFaultsOf(t, "main", moduleOf("", fn, letDef("b", exCall(exName("f"), exText("")))), ""), "", lines("b: int", "f: (text) -> int"))
	fn.Params, fn.Exp = []string{"p", "q"}, exAdd(exName("p"), exName("q"))
	wantFaultsOf(t, "main", moduleOf("", letDef("p", exInt(1)), fn), "0:name")
	fn.Params, fn.Types = []string{"p", "p"}, listT(textT, intT)
	fn.Exp = exAdd(exName("p"), exInt(1))
	wantSummary(t, wantFaultsOf(t, "main", moduleOf("", fn), ""), "", "f: (text, int) -> int")
	// types that are none
	for _, c := range wrongTypes {
		names := strings.Repeat("4:type ", len(impl.TypeNames(c.t)))
		typed := typedLet("a", c.t, exInt(1))
		typed.Line = 4
		wantFaultsOf(t, "main", moduleOf("", typed), names+"4:fit")
		fn := fnDef("f", "a", listT(c.t), intT, exInt(1))
		fn.Line = 4
		s := wantFaultsOf(t, "main", moduleOf("", fn), strings.TrimSpace(names))
		if names == "" {
			wantSummary(t, s, "", "f: any")
		}
		fn.Exp = exName("a")
		wantFaultsOf(t, "main", moduleOf("", fn), names+"4:fit")
		wrong, _ := impl.CheckModule("main", moduleOf("", typeDef("T", c.t), typedLet("a", intT, exInt(1))), nil)
		if got := faultsText(wrong); !strings.HasSuffix(got, "0:fit") {
			t.Errorf("%s in the environment: %q", c.what, got)
		}
	}
	// names that are none
	wantSummary(t, wantFaultsOf(t, "main", moduleOf("", letDef("", exInt(1)), letDef("let", exName(""))), ""), "", lines(": int", "let: int"))
}

func TestSummariesThatAreNone(t *testing.T) {
	for _, c := range wrongTypes {
		m := impl.Summary{Name: "m", Types: []impl.Named{{Name: "m.T", Type: c.t}}, Exports: []impl.Named{{Name: "v", Type: c.t}, {Name: "w", Type: nameT("m.T")}}}
		s := wantFaults(t, "import m\nlet a = m.w", "", m)
		if len(s.Exports) != 1 || !sameType(s.Exports[0].Type, nameT("m.T")) || len(s.Types) == 0 {
			t.Errorf("%s: %+v", c.what, s)
		}
		wantFaults(t, "import m\nlet a: int = 1\nlet b = if true then m.v else 1", "2:fit 3:if", m)
		m.Types = nil
		wantFaults(t, "import m\nlet a = m.v == 1\nlet b: int = m.w\nlet c: int = m.v", "4:fit", m)
	}
	for _, x := range withinItself() {
		m := impl.Summary{Name: "m", Types: []impl.Named{{Name: "T", Type: x}, {Name: "b", Type: x}}, Exports: []impl.Named{{Name: "v", Type: x}}}
		wantFaults(t, "import m\nlet a = m.v\nlet b = {a = m.v}", "", m)
	}
	// a type that is none is closed in its parts all the same
	odd := impl.Type{Kind: 9, Name: "x", Names: []string{"y"}, Kids: listT(nameT("m.T"), nameT("m.U"), unionT(textT, intT), unionT(nameT("m.U"), intT))}
	m := impl.Summary{Name: "m", Types: []impl.Named{{Name: "m.T", Type: intT}}, Exports: []impl.Named{{Name: "v", Type: odd}}}
	s := wantFaults(t, "import m\nlet a = m.v", "", m)
	odd.Kids = listT(nameT("m.T"), anyT, unionT(intT, textT), anyT)
	if len(s.Exports) != 1 || !sameType(s.Exports[0].Type, odd) || envText(s.Types) != "m.T: int" {
		t.Errorf("%+v", s)
	}
	// exports whose types stand nowhere, or that are named as this module's
	m = impl.Summary{Name: "m", Exports: envFrom(t, "v = m.T", "w = main.T | int")}
	s = wantFaults(t, "import m\ntype T = text\nlet a = m.v.x(1)\nlet b = m.v\nlet c = m.w\nlet d: int | text = c", "", m)
	wantSummary(t, s, "main.T: text", lines("a: any", "b: any", "c: int | main.T", "d: int | text"))
	wantFaults(t, "import m\nlet a = m.v", "", impl.Summary{Name: "m", Exports: envFrom(t, "w = int", "v = text", "v = int")}, impl.Summary{})
}

func TestExpressionsWithinThemselves(t *testing.T) {
	for kind := -1; kind <= impl.ExIn+1; kind++ {
		for kids := 1; kids < 5; kids++ {
			e := expWithinItself(kind, kids)
			impl.Infer(nil, nil, nil, e)
			impl.CheckModule("main", moduleOf("", letDef("x", e), letDef("y", e)), nil)
			e.Kids[0] = exName("q")
			impl.Infer(nil, nil, nil, e)
		}
	}
	for _, kind := range []int{impl.ExCall, impl.ExIn, impl.ExRecord, 99} {
		impl.CheckModule("main", moduleOf("", letDef("x", expWithinItself(kind, 5000)), letDef("y", expWithinItself(kind, 8))), nil)
	}
	loop := exAdd(exInt(1), exInt(2))
	loop.Kids[1] = loop
	inferring{}.want(t, loop, "any", "")
	loop = exField(exInt(1), "a")
	loop.Kids[0] = loop
	inferring{}.want(t, loop, "any", "")
	// what is wrong on its way is not told again and again
	loop = exAdd(exName("q"), exInt(2))
	loop.Kids[1] = loop
	if got, wrong := impl.Infer(nil, nil, nil, loop); !sameType(got, anyT) || len(wrong) == 0 || len(wrong) > 5 {
		t.Error("one that is within itself is wrong by", len(wrong))
	}
}

func TestDeepAndWideExpressions(t *testing.T) {
	const many = 100000
	sum, field, in, wide := exInt(1), exName("t"), exName("x1"), exRecord("")
	for i := range many {
		sum = exAdd(sum, exInt(i))
		field = exField(field, "t")
		in = exIn("x"+strconv.Itoa(i%7), exName("i"), in)
		wide.Names = append(wide.Names, "a"+strconv.Itoa(i))
		wide.Kids = append(wide.Kids, exInt(i))
	}
	of := inferring{env: rightEnv(t, "T = {t: T}"), scope: envFrom(t, "t = T", "i = int")}
	of.want(t, sum, "int", "")
	of.want(t, exAdd(sum, exText("")), "any", "0:plus")
	of.want(t, field, "T", "")
	of.want(t, exField(field, "u"), "any", "0:field")
	of.want(t, in, "int", "")
	if got, wrong := impl.Infer(nil, nil, nil, wide); len(got.Kids) != many || len(wrong) != 0 {
		t.Error("a wide record", len(got.Kids), faultsText(wrong))
	}
}

// One list very many times: what is told of it once is told of it again, its faults, too.
func TestOneListVeryManyTimesInAnExpression(t *testing.T) {
	of := inferring{env: rightEnv(t, "T = {t: T}"), scope: envFrom(t, "t = T", "i = int")}
	doubled := func(e impl.Exp, times int, twice func(e impl.Exp) impl.Exp) impl.Exp {
		for range times {
			e = twice(e)
		}
		return e
	}
	sum := func(e impl.Exp) impl.Exp { return exAdd(e, e) }
	of.want(t, doubled(exName("i"), 200, sum), "int", "")
	of.want(t, doubled(exName("i"), 25, sum), "int", "")
	of.want(t, exAdd(doubled(exName("i"), 200, sum), exText("")), "any", "0:plus")
	of.want(t, doubled(exName("t"), 200, func(e impl.Exp) impl.Exp { return exIf(exTrue, e, exField(e, "t")) }), "T", "")
	of.want(t, doubled(exName("i"), 200, func(e impl.Exp) impl.Exp { return exIn("y", e, e) }), "int", "")
	of.want(t, doubled(exName("i"), 200, func(e impl.Exp) impl.Exp { return exIn("i", exAdd(e, e), e) }), "int", "")
	of.want(t, doubled(exName("t"), 12, func(e impl.Exp) impl.Exp { return exField(exRecord("a b c", e, e, e), "b") }), "T", "")
	for _, times := range []int{1, 5, 10, 16} {
		got, wrong := impl.Infer(nil, nil, nil, doubled(exName("q"), times, sum))
		if !sameType(got, anyT) || len(wrong) != 1<<times || slices.ContainsFunc(wrong, func(d impl.Diag) bool { return d.Code != "name" }) {
			t.Error("faults of one list very many times:", len(wrong))
		}
	}
	// in their order, and each scope by itself
	e := exCall(exName("p"), exAdd(exName("i"), exText("")), exIn("i", exText(""), exAdd(exName("i"), exText(""))), exIn("p", exInt(1), exName("p")), exName("p"))
	twice := exRecord("a b c", exIn("r", e, e), exIn("p", exText(""), e), e)
	inferAsByWords(t, nil, nil, of.scope, doubled(twice, 3, func(e impl.Exp) impl.Exp { return exRecord("b a", e, exIn("i", e, e)) }))
	// one list of kids by expressions that give its first one to other names, or to none
	kids := []impl.Exp{exInt(1), exAdd(exName("x"), exName("y"))}
	in := func(name string) impl.Exp { return impl.Exp{Kind: impl.ExIn, Text: name, Kids: kids} }
	list := exCall(exName("none"), in("x"), in("y"), in("z"), impl.Exp{Kind: impl.ExSame, Kids: kids}, in("x"), in(""))
	for _, scope := range []string{"x = text", "y = int", "y = text", "z = int"} {
		inferAsByWords(t, nil, nil, envFrom(t, scope), list)
	}
	// no memory holds all faults, nor all scopes
	impl.Infer(nil, nil, nil, doubled(exName("q"), 200, func(e impl.Exp) impl.Exp { return exCall(e, e, e) }))
	impl.Infer(nil, nil, []impl.Named{{Name: "x", Type: wrongTypes[0].t}}, doubled(exName("x"), 200, func(e impl.Exp) impl.Exp { return exIn("y", e, e) }))
	endless := doubled(exInt(1), 60, func(e impl.Exp) impl.Exp { return exSame(exIn("x", exInt(1), e), exIn("x", exText(""), e)) })
	// what stands behind it is told all the same
	wrong, _ := impl.CheckModule("main", moduleOf("", letDef("a", endless), letDef("b", exAdd(exAdd(exInt(1), exInt(2)), exText("")))), nil)
	if faultsText(wrong) != "0:plus" {
		t.Error("behind what could not be gone through:", faultsText(wrong))
	}
}

// Types that are made of types may grow with each level by a factor: some come to an end, none to no answer.
func TestRecordsThatGrow(t *testing.T) {
	grown := func(levels, width int, last string) string {
		src := "let a0 = 1\n"
		for i := range levels {
			var fields []string
			for at := range width {
				fields = append(fields, string(rune('a'+at))+" = a"+strconv.Itoa(i))
			}
			src += "let a" + strconv.Itoa(i+1) + " = {" + strings.Join(fields, ", ") + "}\n"
		}
		return src + last
	}
	s := wantFaults(t, grown(12, 2, "let b = a12.a.b.a.b.a.b.a.b.a.b.a.b"), "")
	if at := slices.IndexFunc(s.Exports, func(n impl.Named) bool { return n.Name == "a12" }); len(impl.TypeText(s.Exports[at].Type)) < 4096 {
		t.Error("a record of records is not told whole")
	}
	wantFaults(t, grown(12, 2, "let b = a12.a.b.a.b.a.b.a.b.a.b.a.b.c"), "14:field")
	wantFaults(t, grown(13, 2, "let b = a13.c.d"), "")
	wantFaults(t, grown(12, 20, "let b = q"), "14:name")
	// of ten fields each, twelve deep
	s = wantFaults(t, grown(12, 10, "let b: int = if true then 1 else a12.j.a.i.a.h.a.g.a.f.a.e.a\nlet c = if true then a12 else a12\nlet d = a12.a"), "")
	for _, n := range s.Exports {
		switch n.Name {
		case "a12", "c":
			wantGreat(t, n.Name, n.Type, intT, 12)
		case "a11", "d":
			wantGreat(t, n.Name, n.Type, intT, 11)
		}
	}
	wantFaults(t, grown(12, 10, "let b: int = a12\nfn f(x: {a: {j: int}}): int = 1\nlet c = f(a2)\nlet d = f(a12)\nlet e = f(a12.a)"), "14:fit 17:fit 18:fit")
	// within one expression, told whole
	src := "let v = let a = 1 in " + strings.Repeat("let a = {p = a, q = a, r = a, s = a, t = a} in ", 8) + "a"
	s = wantFaults(t, src, "")
	of, wrong := impl.Infer(nil, nil, nil, mustParse(t, src).Defs[0].Exp)
	for _, x := range listT(of, s.Exports[0].Type) {
		answer := newMemory()
		answer.addType(x)
		if got, deep := innermost(x, 2); deep != 8 || !sameType(got, intT) || len(answer.places) < 488280+5*97656 || len(wrong) > 0 {
			t.Error("a record eight deep", deep, len(answer.places), faultsText(wrong))
		}
	}
}

// What is no type is closed in its parts, however many there are.
func TestManyPartsAreClosed(t *testing.T) {
	odd := manyShared(99)
	odd.Kids = append(odd.Kids, nameT("m.T"), nameT("m.U"), unionT(textT, intT), unionT(nameT("m.U"), intT))
	m := impl.Summary{Name: "m", Types: []impl.Named{{Name: "m.T", Type: intT}}, Exports: []impl.Named{{Name: "v", Type: odd}}}
	s := wantFaults(t, "import m\nlet a = m.v\nlet b = m.v", "", m)
	odd.Kids = append(odd.Kids[:10004:10004], nameT("m.T"), anyT, unionT(intT, textT), anyT)
	for _, n := range s.Exports {
		wantOwnLists(t, "CheckModule", n.Type, odd)
		if !sameType(n.Type, odd) {
			t.Error("a type of many parts is closed otherwise")
		}
	}
	// what is within itself is any where it leads back
	for _, x := range withinItself() {
		s := wantFaults(t, "import m\nlet a = m.v", "", impl.Summary{Name: "m", Exports: []impl.Named{{Name: "v", Type: x}}})
		if len(s.Exports) != 1 {
			t.Error("what is within itself is not told")
		}
	}
	// what is very deep
	deep := deepened(nameT("m.U"), 200000, func(x impl.Type) impl.Type { return fnT(x) })
	s = wantFaults(t, "import m\nlet a = m.v", "", impl.Summary{Name: "m", Exports: []impl.Named{{Name: "v", Type: deep}}})
	if got, at := innermost(s.Exports[0].Type, 0); at != 200000 || !sameType(got, anyT) {
		t.Error("a type that is very deep", at)
	}
}
