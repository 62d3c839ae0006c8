package tests

import (
	"math"
	"reflect"
	"slices"
	"strconv"
	"strings"
	"testing"

	"loop.example/g00276/impl"
)

var (
	exTrue  = impl.Exp{Kind: impl.ExTrue}
	exFalse = impl.Exp{Kind: impl.ExFalse}
)

func exInt(n int) impl.Exp             { return impl.Exp{Kind: impl.ExInt, N: n} }
func exText(s string) impl.Exp         { return impl.Exp{Kind: impl.ExText, Text: s} }
func exName(s string) impl.Exp         { return impl.Exp{Kind: impl.ExName, Text: s} }
func exCall(kids ...impl.Exp) impl.Exp { return impl.Exp{Kind: impl.ExCall, Kids: kids} }
func exIf(a, b, c impl.Exp) impl.Exp   { return impl.Exp{Kind: impl.ExIf, Kids: []impl.Exp{a, b, c}} }
func exAdd(a, b impl.Exp) impl.Exp     { return impl.Exp{Kind: impl.ExAdd, Kids: []impl.Exp{a, b}} }
func exSame(a, b impl.Exp) impl.Exp    { return impl.Exp{Kind: impl.ExSame, Kids: []impl.Exp{a, b}} }
func exMod(mod, name string) impl.Exp {
	return impl.Exp{Kind: impl.ExMod, Text: mod, Names: []string{name}}
}
func exField(of impl.Exp, name string) impl.Exp {
	return impl.Exp{Kind: impl.ExField, Text: name, Kids: []impl.Exp{of}}
}
func exIn(name string, a, b impl.Exp) impl.Exp {
	return impl.Exp{Kind: impl.ExIn, Text: name, Kids: []impl.Exp{a, b}}
}
func exRecord(names string, kids ...impl.Exp) impl.Exp {
	return impl.Exp{Kind: impl.ExRecord, Names: strings.Fields(names), Kids: kids}
}

func typeDef(name string, x impl.Type) impl.Def {
	return impl.Def{Kind: impl.DefType, Name: name, Type: x}
}
func letDef(name string, e impl.Exp) impl.Def {
	return impl.Def{Kind: impl.DefLet, Name: name, Exp: e}
}
func typedLet(name string, x impl.Type, e impl.Exp) impl.Def {
	return impl.Def{Kind: impl.DefLet, Name: name, Typed: true, Type: x, Exp: e}
}
func fnDef(name, params string, types []impl.Type, gives impl.Type, e impl.Exp) impl.Def {
	return impl.Def{Kind: impl.DefFn, Name: name, Params: strings.Fields(params), Types: types, Typed: true, Type: gives, Exp: e}
}
func moduleOf(imports string, defs ...impl.Def) impl.Module {
	return impl.Module{Imports: strings.Fields(imports), Defs: defs}
}

// plain gives a module's parts in one form: empty lists nil, and lines 0 where they are not asked for.
func plain(m impl.Module, lines bool) impl.Module {
	out := impl.Module{Imports: plainNames(m.Imports)}
	for _, d := range m.Defs {
		d.Params = plainNames(d.Params)
		d.Types = plainTypes(d.Types)
		d.Type = plainTypes(listT(d.Type))[0]
		d.Exp = plainExps([]impl.Exp{d.Exp}, lines)[0]
		if !lines {
			d.Line = 0
		}
		out.Defs = append(out.Defs, d)
	}
	return out
}

func plainNames(list []string) []string {
	return append([]string(nil), list...)
}

func plainTypes(list []impl.Type) []impl.Type {
	var out []impl.Type
	for _, x := range list {
		x.Names = plainNames(x.Names)
		x.Kids = plainTypes(x.Kids)
		out = append(out, x)
	}
	return out
}

func plainExps(list []impl.Exp, lines bool) []impl.Exp {
	var out []impl.Exp
	for _, e := range list {
		e.Names = plainNames(e.Names)
		e.Kids = plainExps(e.Kids, lines)
		if !lines {
			e.Line = 0
		}
		out = append(out, e)
	}
	return out
}

func alikeModules(a, b impl.Module) bool {
	return reflect.DeepEqual(plain(a, false), plain(b, false))
}

func mustParse(t *testing.T, src string) impl.Module {
	t.Helper()
	m, line := impl.ParseModule(src)
	if line != 0 {
		t.Fatalf("ParseModule(%.90q) is refused at line %d", src, line)
	}
	return m
}

func wantModule(t *testing.T, src string, want impl.Module) {
	t.Helper()
	if got, line := impl.ParseModule(src); line != 0 || !alikeModules(got, want) {
		t.Errorf("ParseModule(%.90q) = %+v, %d, want %+v", src, got, line, want)
	}
}

func wantExp(t *testing.T, imports, src string, want impl.Exp) {
	t.Helper()
	text := ""
	for _, name := range strings.Fields(imports) {
		text += "import " + name + "\n"
	}
	for _, head := range []string{"let x = ", "let x: int = "} {
		d := letDef("x", want)
		d.Typed = strings.Contains(head, ":")
		wantModule(t, text+head+src, moduleOf(imports, d))
	}
	fn := fnDef("f", "", nil, intT, want)
	wantModule(t, text+"fn f(): int = "+src+" type T = int", moduleOf(imports, fn, typeDef("T", intT)))
}

func wantType(t *testing.T, src string, want impl.Type) {
	t.Helper()
	wantModule(t, "type T = "+src, moduleOf("", typeDef("T", want)))
	wantModule(t, "let x: "+src+" = 1", moduleOf("", typedLet("x", want, exInt(1))))
	wantModule(t, "fn f(a: "+src+", b: "+src+"): "+src+" = a", moduleOf("", fnDef("f", "a b", listT(want, want), want, exName("a"))))
}

func wantRefused(t *testing.T, src string, want int) {
	t.Helper()
	if m, line := impl.ParseModule(src); line != want || len(m.Imports) != 0 || len(m.Defs) != 0 {
		t.Errorf("ParseModule(%.120q) = %+v, %d, want the zero value and %d", src, m, line, want)
	}
}

// wordPerLine puts each word on a line of its own, so that a line tells a word.
func wordPerLine(words string) string {
	return strings.Join(strings.Fields(words), "\n")
}

func wantRefusedWord(t *testing.T, words string, at int) {
	t.Helper()
	wantRefused(t, wordPerLine(words), at)
	wantRefused(t, "\n# note\n"+wordPerLine(words)+"\n\n", at+2)
	wantRefused(t, strings.Join(strings.Fields(words), " "), 1)
}

func TestConstantsOfModules(t *testing.T) {
	got := []int{impl.ExInt, impl.ExText, impl.ExTrue, impl.ExFalse, impl.ExName, impl.ExMod, impl.ExField, impl.ExRecord, impl.ExCall, impl.ExIf, impl.ExAdd, impl.ExSame, impl.ExIn, impl.MaxNest, impl.MaxImports, impl.DefType, impl.DefLet, impl.DefFn}
	if !slices.Equal(got, []int{0, 1, 2, 3, 4, 5, 6, 7, 8, 9, 10, 11, 12, 20, 50, 0, 1, 2}) {
		t.Error(got)
	}
}

func TestModulesOfNothing(t *testing.T) {
	for _, src := range append(slices.Clone(blankTexts), "", "# let x", strings.Repeat("\n", impl.MaxSource), strings.Repeat(" ", impl.MaxSource)) {
		wantModule(t, src, impl.Module{})
	}
	if s := impl.ShowModule(impl.Module{}); s != "" {
		t.Errorf("nothing is shown as %q", s)
	}
}

func TestImports(t *testing.T) {
	wantModule(t, "import a", moduleOf("a"))
	wantModule(t, "import b import a", moduleOf("b a"))
	wantModule(t, "import\n\nb import # a\n c", moduleOf("b c"))
	wantModule(t, "import a let a = 1", moduleOf("a", letDef("a", exInt(1))))
	wantModule(t, "import a type a = a", moduleOf("a", typeDef("a", nameT("a"))))
	wantModule(t, "import imports import A", moduleOf("imports A"))
}

func manyImports(count int) (string, string) {
	text, names := "", ""
	for i := range count {
		text += "import\nm" + strconv.Itoa(i) + "\n"
		names += " m" + strconv.Itoa(i)
	}
	return text, names
}

func TestMaxImports(t *testing.T) {
	for _, count := range []int{1, impl.MaxImports - 1, impl.MaxImports} {
		text, names := manyImports(count)
		wantModule(t, text, moduleOf(names))
		wantModule(t, text+"let x = m0.a", moduleOf(names, letDef("x", exMod("m0", "a"))))
		wantRefused(t, text+"import", 2*count+1)
		wantRefused(t, text+")", 2*count+1)
	}
	for _, more := range []int{1, 2, 30} {
		text, _ := manyImports(impl.MaxImports + more)
		wantRefused(t, text, 2*impl.MaxImports+1)
		wantRefused(t, text+"let x = 1", 2*impl.MaxImports+1)
	}
	text, _ := manyImports(impl.MaxImports)
	wantRefused(t, text+"import\nm0", 2*impl.MaxImports+1)
	wantRefused(t, text+"import", 2*impl.MaxImports+1)
}

func TestDefinitions(t *testing.T) {
	wantModule(t, "type T = int", moduleOf("", typeDef("T", intT)))
	wantModule(t, "let x = 1", moduleOf("", letDef("x", exInt(1))))
	wantModule(t, "let x : int = 1", moduleOf("", typedLet("x", intT, exInt(1))))
	wantModule(t, "let x:any=x", moduleOf("", typedLet("x", anyT, exName("x"))))
	wantModule(t, "fn f ( ) : int = 1", moduleOf("", fnDef("f", "", nil, intT, exInt(1))))
	wantModule(t, "fn f(a: text): T = a", moduleOf("", fnDef("f", "a", listT(textT), nameT("T"), exName("a"))))
	wantModule(t, "fn f(b: text, a: m.T, f: {}): any = f", moduleOf("", fnDef("f", "b a f", listT(textT, nameT("m.T"), recordT("")), anyT, exName("f"))))
	wantModule(t, "fn f(a:()->int):(int|text)->bool=a", moduleOf("", fnDef("f", "a", listT(fnT(intT)), fnT(unionT(intT, textT), boolT), exName("a"))))
}

func TestManyParameters(t *testing.T) {
	var params, shown []string
	var types []impl.Type
	for i := range 150 {
		params = append(params, "p"+strconv.Itoa(i))
		shown = append(shown, params[i]+": int")
		types = append(types, intT)
	}
	src := "fn f(" + strings.Join(shown, ", ") + "): int = 1"
	wantModule(t, src, moduleOf("", fnDef("f", strings.Join(params, " "), types, intT, exInt(1))))
}

func TestDefinitionsOneBehindTheOther(t *testing.T) {
	want := moduleOf("m n", letDef("x", exName("y")), letDef("x", exInt(2)), typeDef("x", nameT("a.b")), fnDef("x", "x", listT(intT), intT, exIn("x", exInt(1), exName("x"))), typeDef("T", unionT(intT, textT)), letDef("y", exIf(exTrue, exName("a"), exCall(exName("b")))), fnDef("f", "", nil, anyT, exSame(exInt(1), exInt(2))), typedLet("z", nameT("T"), exRecord("")), letDef("z", exField(exInt(1), "a")))
	for _, between := range []string{" ", "\n", "\n\n", " # let\n", "  "} {
		words := "import m import n let x = y let x = 2 type x = a . b fn x ( x : int ) : int = let x = 1 in x type T = int | text let y = if true then a else b ( ) fn f ( ) : any = 1 == 2 let z : T = { } let z = 1 . a"
		wantModule(t, strings.ReplaceAll(words, " ", between), want)
	}
	wantModule(t, "import m import n let x=y let x=2type x=a.b fn x(x:int):int=let x=1in x type T=int|text let y=if true then a else b()fn f():any=1==2let z:T={}let z=1.a", want)
}

func TestTypesOfModules(t *testing.T) {
	for _, c := range rightTypes {
		wantType(t, c.text, c.t)
		wantType(t, "("+c.text+")", c.t)
		wantType(t, "( ( ("+c.text+"\n)) )", c.t)
		wantType(t, "{a: "+c.text+"}", recordT("a", c.t))
		wantType(t, "{b:"+c.text+",a:("+c.text+")}", recordT("a b", c.t, c.t))
		wantType(t, "("+c.text+") -> int", fnT(c.t, intT))
		wantType(t, "(int, "+c.text+", bool) -> int", fnT(intT, c.t, boolT, intT))
		wantType(t, "() -> ("+c.text+")", fnT(c.t))
		wantType(t, c.text+" | any", anyT)
		wantType(t, "any | ("+c.text+")", anyT)
		wantType(t, c.text+" | "+c.text+"|"+c.text, c.t)
	}
}

func TestUnionsOfModules(t *testing.T) {
	wantType(t, "text | int", unionT(intT, textT))
	wantType(t, "text | int | text | bool | int", unionT(boolT, intT, textT))
	wantType(t, "(text | bool) | int", unionT(boolT, intT, textT))
	wantType(t, "text | (bool | (int | text))", unionT(boolT, intT, textT))
	wantType(t, "{a: text | int, b: (int)} | T", unionT(nameT("T"), recordT("a b", unionT(intT, textT), intT)))
	wantType(t, "m.T | T | m.a", unionT(nameT("T"), nameT("m.T"), nameT("m.a")))
	wantType(t, "int | {} | any | () -> int", anyT)
}

func TestWhatStandsBehindTheArrow(t *testing.T) {
	intOrText := unionT(intT, textT)
	wantType(t, "() -> int | text", unionT(fnT(intT), textT))
	wantType(t, "() -> text | int", unionT(fnT(textT), intT))
	wantType(t, "() -> (int | text)", fnT(intOrText))
	wantType(t, "() -> ((int | text))", fnT(intOrText))
	wantType(t, "(() -> int) | text", unionT(fnT(intT), textT))
	wantType(t, "(() -> int | text)", unionT(fnT(intT), textT))
	wantType(t, "text | () -> int", unionT(fnT(intT), textT))
	wantType(t, "text | () -> int | bool", unionT(fnT(intT), boolT, textT))
	wantType(t, "() -> () -> int", fnT(fnT(intT)))
	wantType(t, "() -> () -> int | text", unionT(fnT(fnT(intT)), textT))
	wantType(t, "() -> (() -> int | text)", fnT(unionT(fnT(intT), textT)))
	wantType(t, "() -> () -> (int | text)", fnT(fnT(intOrText)))
	wantType(t, "(int) -> (text) -> bool | int", unionT(fnT(intT, fnT(textT, boolT)), intT))
	wantType(t, "(int | text) -> int | text", unionT(fnT(intOrText, intT), textT))
	wantType(t, "((int) -> text | bool) -> int", fnT(unionT(fnT(intT, textT), boolT), intT))
	wantType(t, "((int)) -> int", fnT(intT, intT))
	wantType(t, "(int, text | int) -> {a: () -> int | text}", fnT(intT, intOrText, recordT("a", unionT(fnT(intT), textT))))
	wantType(t, "() -> m.T | m.T", unionT(fnT(nameT("m.T")), nameT("m.T")))
	wantType(t, "() -> any | int", unionT(fnT(anyT), intT))
	wantType(t, "() -> int | any", anyT)
	wantType(t, "() -> (int | any)", fnT(anyT))
	wantType(t, "() -> int | () -> int", fnT(intT))
	wantType(t, "() -> {} | {}", unionT(fnT(recordT("")), recordT("")))
}

func TestKindsOfExpressions(t *testing.T) {
	x, y, z := exName("x"), exName("y"), exName("z")
	wantExp(t, "", "0", exInt(0))
	wantExp(t, "", "007", exInt(7))
	wantExp(t, "", "999999999", exInt(999999999))
	wantExp(t, "", `""`, exText(""))
	wantExp(t, "", `"let # | x"`, exText("let # | x"))
	wantExp(t, "", "true", exTrue)
	wantExp(t, "", "false", exFalse)
	wantExp(t, "", "abcdefghijkl", exName("abcdefghijkl"))
	wantExp(t, "", "x.a", exField(x, "a"))
	wantExp(t, "", "x.a.b", exField(exField(x, "a"), "b"))
	wantExp(t, "", "1.a", exField(exInt(1), "a"))
	wantExp(t, "", `"s".a`, exField(exText("s"), "a"))
	wantExp(t, "", "true . a", exField(exTrue, "a"))
	wantExp(t, "", "{}", exRecord(""))
	wantExp(t, "", "{ b = 1, a = x , c={} }", exRecord("b a c", exInt(1), x, exRecord("")))
	wantExp(t, "", "{a = 1}.a", exField(exRecord("a", exInt(1)), "a"))
	wantExp(t, "", "{a = let x = 1 in x, b = if x then y else z, c = x == y, d = x + y}", exRecord("a b c d", exIn("x", exInt(1), x), exIf(x, y, z), exSame(x, y), exAdd(x, y)))
	wantExp(t, "", "if x then y else z", exIf(x, y, z))
	wantExp(t, "", "if x == y then y + z else z.a", exIf(exSame(x, y), exAdd(y, z), exField(z, "a")))
	wantExp(t, "", "if if x then y else z then if y then z else x else if z then x else y", exIf(exIf(x, y, z), exIf(y, z, x), exIf(z, x, y)))
	wantExp(t, "", "if let a = x in y then let a = y in z else let a = z in x", exIf(exIn("a", x, y), exIn("a", y, z), exIn("a", z, x)))
	wantExp(t, "", "let a = x in y", exIn("a", x, y))
	wantExp(t, "", "let a = let b = x in y in let c = z in x", exIn("a", exIn("b", x, y), exIn("c", z, x)))
	wantExp(t, "", "let a = if x then y else z in x == y + z", exIn("a", exIf(x, y, z), exSame(x, exAdd(y, z))))
	wantExp(t, "", "x + y", exAdd(x, y))
	wantExp(t, "", "x + y + z", exAdd(exAdd(x, y), z))
	wantExp(t, "", "x + (y + z)", exAdd(x, exAdd(y, z)))
	wantExp(t, "", "x == y", exSame(x, y))
	wantExp(t, "", "(x == y) == z", exSame(exSame(x, y), z))
	wantExp(t, "", "x == (y == z)", exSame(x, exSame(y, z)))
	wantExp(t, "", "x + y == y + z + x", exSame(exAdd(x, y), exAdd(exAdd(y, z), x)))
	wantExp(t, "", "x + (y == z) + x", exAdd(exAdd(x, exSame(y, z)), x))
	wantExp(t, "", "x.a + y(z).b == {}", exSame(exAdd(exField(x, "a"), exField(exCall(y, z), "b")), exRecord("")))
}

func TestCalls(t *testing.T) {
	x, f := exName("x"), exName("f")
	wantExp(t, "", "f()", exCall(f))
	wantExp(t, "", "f\n\n(\n)", exCall(f))
	wantExp(t, "", "f(x)", exCall(f, x))
	wantExp(t, "", "f(1, 2, 3, 4, 5)", exCall(f, exInt(1), exInt(2), exInt(3), exInt(4), exInt(5)))
	wantExp(t, "", "f(1, 2, 3, 4, 5, 6)", exCall(f, exInt(1), exInt(2), exInt(3), exInt(4), exInt(5), exInt(6)))
	wantExp(t, "", "f(x)()(x, x)", exCall(exCall(exCall(f, x)), x, x))
	wantExp(t, "", "f.a(x).b(x)", exCall(exField(exCall(exField(f, "a"), x), "b"), x))
	wantExp(t, "", "1()", exCall(exInt(1)))
	wantExp(t, "", "{}(true)", exCall(exRecord(""), exTrue))
	wantExp(t, "", "(f)(x)", exCall(f, x))
	wantExp(t, "", "(x + f)(x)", exCall(exAdd(x, f), x))
	wantExp(t, "", "x + f(x)", exAdd(x, exCall(f, x)))
	wantExp(t, "", "f(let a = x in x, if x then x else f, x == x, x + x, (x))", exCall(f, exIn("a", x, x), exIf(x, x, f), exSame(x, x), exAdd(x, x), x))
	wantExp(t, "", "let a = x in f(x)", exIn("a", x, exCall(f, x)))
	wantExp(t, "", "(let a = x in f)(x)", exCall(exIn("a", x, f), x))
	wantExp(t, "", "(if x then f else f)(x)", exCall(exIf(x, f, f), x))
	wantExp(t, "", "if x then f else f(x)", exIf(x, f, exCall(f, x)))
	wantRefusedWord(t, "let a = f ( 1 , 2 , 3 , 4 , 5 , 6 , 7 )", 17)
	wantRefusedWord(t, "let a = f ( 1 , 2 , 3 , 4 , 5 , 6 , )", 17)
	wantRefusedWord(t, "let a = f ( ) ( 1 , 2 , 3 , 4 , 5 , 6 , 7 , 8 )", 19)
	wantRefusedWord(t, "let a = f ( x , g ( 1 , 2 , 3 , 4 , 5 , 6 , 7 ) )", 21)
}

func TestRoundBracketsDoNotCount(t *testing.T) {
	sources := []string{"1", `"s"`, "true", "x", "m.v", "x.a", "{a = 1}", "f(1, 2)", "if x then y else z", "1 + 2", "1 + 2 + 3", "1 == 2", "let a = 1 in a", "m.v(x).a + 1 == 2"}
	for _, s := range sources {
		whole := mustParse(t, "import m let x = "+s)
		for _, around := range [][2]string{{"(", ")"}, {"((", "))"}, {"(\n( (", " ) )\n)"}, {strings.Repeat("(", 300), strings.Repeat(")", 300)}} {
			wantModule(t, "import m let x = "+around[0]+s+around[1], whole)
		}
	}
}

func TestImportsAheadOfADot(t *testing.T) {
	m, mv, x := exName("m"), exMod("m", "v"), exName("x")
	wantExp(t, "m", "m.v", mv)
	wantExp(t, "m", "m\n.\nv", mv)
	wantExp(t, "m", "(m).v", mv)
	wantExp(t, "m", "(((m))).v", mv)
	wantExp(t, "m", "(m.v)", mv)
	wantExp(t, "m", "m", m)
	wantExp(t, "m", "(m)", m)
	wantExp(t, "m", "m.m", exMod("m", "m"))
	wantExp(t, "m v", "m.v", mv)
	wantExp(t, "m v", "(m.v).v", exField(mv, "v"))
	wantExp(t, "m", "m.m.m", exField(exMod("m", "m"), "m"))
	wantExp(t, "m", "m.v.a", exField(mv, "a"))
	wantExp(t, "m", "m.v(x)", exCall(mv, x))
	wantExp(t, "m", "m(x).v", exField(exCall(m, x), "v"))
	wantExp(t, "m", "m().v", exField(exCall(m), "v"))
	wantExp(t, "m", "x(m).v", exField(exCall(x, m), "v"))
	wantExp(t, "m", "x.m.v", exField(exField(x, "m"), "v"))
	wantExp(t, "m", "(x.m).v", exField(exField(x, "m"), "v"))
	wantExp(t, "m", "x.m", exField(x, "m"))
	wantExp(t, "m", "{m = m}.m", exField(exRecord("m", m), "m"))
	wantExp(t, "m", "{m = m.m}.m.v", exField(exField(exRecord("m", exMod("m", "m")), "m"), "v"))
	wantExp(t, "m", `"m".v`, exField(exText("m"), "v"))
	wantExp(t, "m", "M.v", exField(exName("M"), "v"))
	wantExp(t, "", "m.v", exField(m, "v"))
	wantExp(t, "n", "m.n", exField(m, "n"))
	wantExp(t, "m", "let m = x in m.v", exIn("m", x, mv))
	wantExp(t, "m", "let m = m.v in m", exIn("m", mv, m))
	wantExp(t, "m", "(let m = x in m).v", exField(exIn("m", x, m), "v"))
	wantExp(t, "m", "(if m then m else m).v", exField(exIf(m, m, m), "v"))
	wantExp(t, "m", "(m + m).v", exField(exAdd(m, m), "v"))
	wantExp(t, "m", "m + m.v", exAdd(m, mv))
	wantExp(t, "m n", "m.v + n.v == (n).m", exSame(exAdd(mv, exMod("n", "v")), exMod("n", "m")))
	wantModule(t, "import m fn m(m: m.m): m = m.m", moduleOf("m", fnDef("m", "m", listT(nameT("m.m")), nameT("m"), exMod("m", "m"))))
	wantModule(t, "import m let m = m type m = m let a = m.v", moduleOf("m", letDef("m", m), typeDef("m", nameT("m")), letDef("a", mv)))
}

// linesOf tells an expression's lines with those of its kids: of itself first.
func linesOf(e impl.Exp) []int {
	list := []int{e.Line}
	for _, kid := range e.Kids {
		list = append(list, linesOf(kid)...)
	}
	return list
}

func TestLinesOfExpressions(t *testing.T) {
	for _, c := range []struct {
		words string
		lines []int
	}{
		// the first word of the expression stands on line 6
		{"1", []int{6}},
		{`"s"`, []int{6}},
		{"true", []int{6}},
		{"false", []int{6}},
		{"x", []int{6}},
		{"( x )", []int{7}},
		{"( ( ( x ) ) )", []int{9}},
		{"m . v", []int{6}},
		{"( m ) . v", []int{7}},
		{"( ( m ) . v )", []int{8}},
		{"x . a", []int{6, 6}},
		{"( x ) . a", []int{7, 7}},
		{"( ( x ) . a . b )", []int{8, 8, 8}},
		{"m . v . a", []int{6, 6}},
		{"{ }", []int{6}},
		{"( { } )", []int{7}},
		{"{ a = 1 , b = x }", []int{6, 9, 13}},
		{"{ a = ( 1 ) }", []int{6, 10}},
		{"f ( )", []int{6, 6}},
		{"( f ) ( )", []int{7, 7}},
		{"f ( 1 , ( 2 ) )", []int{6, 6, 8, 11}},
		{"( ( f ) ) ( 1 ) ( 2 )", []int{8, 8, 8, 12, 15}},
		{"if a then b else c", []int{6, 7, 9, 11}},
		{"( if ( a ) then b else c )", []int{7, 9, 12, 14}},
		{"1 + 2", []int{6, 6, 8}},
		{"( 1 ) + 2", []int{7, 7, 10}},
		{"( 1 + 2 )", []int{7, 7, 9}},
		{"1 + 2 + 3", []int{6, 6, 6, 8, 10}},
		{"( ( 1 ) + 2 ) + 3", []int{8, 8, 8, 11, 14}},
		{"1 + ( 2 + 3 )", []int{6, 6, 9, 9, 11}},
		{"1 == 2", []int{6, 6, 8}},
		{"( 1 ) == ( 2 )", []int{7, 7, 11}},
		{"( 1 == 2 ) == 3", []int{7, 7, 7, 9, 12}},
		{"x . a + y == z", []int{6, 6, 6, 6, 10, 12}},
		{"( if a then b else c ) + 1", []int{7, 7, 8, 10, 12, 15}},
		{"( let a = b in c ) . d", []int{7, 7, 10, 12}},
		{"( let a = b in c ) ( d )", []int{7, 7, 10, 12, 15}},
		{"let a = b in c", []int{6, 9, 11}},
		{"( let a = ( b ) in ( c ) )", []int{7, 11, 15}},
	} {
		m := mustParse(t, wordPerLine("import m let x = "+c.words))
		if got := linesOf(m.Defs[0].Exp); !slices.Equal(got, c.lines) || m.Defs[0].Line != 3 {
			t.Errorf("%s: lines %v, want %v; the definition's is %d", c.words, got, c.lines, m.Defs[0].Line)
		}
	}
}

func TestLinesOfDefinitions(t *testing.T) {
	m := mustParse(t, "\n\nimport\nm\ntype\nT\n=\nint let\nx = 1 fn f\n(\n):int=1\n\n# let\n  let\n\n\ny:int=\n(\n(2))")
	var lines []int
	for _, d := range m.Defs {
		lines = append(lines, d.Line)
	}
	if !slices.Equal(lines, []int{5, 8, 9, 14}) {
		t.Error(lines)
	}
	if line := m.Defs[3].Exp.Line; line != 19 {
		t.Error(line)
	}
	if m.Defs[0].Exp.Line != 0 {
		t.Error("a type's Exp has a line")
	}
}

func TestWhatLexRefuses(t *testing.T) {
	for src, want := range map[string]int{
		"!":                           1,
		"let x = 1\n!":                2,
		"let x\n\n= -1":               3,
		")\n\n@":                      3,
		"import a import a\n\n\n\"x":  4,
		"let x = abcdefghijklm":       1,
		"\nlet x = 1234567890":        2,
		"\n\nlet x = \"\t\"":          3,
		"\tlet x = 1":                 1,
		"let x = 1\r\n":               1,
		"let \u00e9 = 1":              1,
		"x\n#\n;":                     3,
		"let x = 1 \\":                1,
		"let x = f(1,2,3,4,5,6,7)\n$": 2,
	} {
		wantRefused(t, src, want)
		if _, line := impl.Lex(src); line != want {
			t.Errorf("Lex(%q) = %d", src, line)
		}
	}
	long := "let x = 1"
	wantModule(t, "\n"+long+strings.Repeat(" ", impl.MaxSource-len(long)-1), moduleOf("", letDef("x", exInt(1))))
	wantRefused(t, "\n"+long+strings.Repeat(" ", impl.MaxSource-len(long)), 1)
	wantRefused(t, strings.Repeat("\n", impl.MaxSource+1), 1)
}

func TestWordsThatDoNotFit(t *testing.T) {
	for _, c := range []struct {
		words string
		at    int
	}{
		{"x", 1}, {"1", 1}, {`"let"`, 1}, {"(", 1}, {"}", 1}, {"in", 1}, {"if", 1}, {"int", 1}, {"true", 1}, {"= = =", 1},
		{"x let y = 1", 1},
		{"import 1", 2}, {"import import", 2}, {"import int", 2}, {`import "m"`, 2}, {"import ( m )", 2}, {"import m . n", 3}, {"import m n", 3}, {"import m , n", 3}, {"import m = 1", 3},
		{"let a = 1 import m", 5}, {"type T = int import m", 5}, {"fn f ( ) : int = 1 import m", 9}, {"import m let a = 1 import n", 7}, {"import m let a = 1 import m", 7},
		{"type 1 = int", 2}, {"type int = int", 2}, {"type let = int", 2}, {"type T : int", 3}, {"type T int", 3}, {"type T == int", 3}, {"type T . U = int", 3},
		{"type T = 1", 4}, {`type T = "int"`, 4}, {"type T = true", 4}, {"type T = let", 4}, {"type T = | int", 4}, {"type T = ) int", 4}, {"type T = -> int", 4}, {"type T = = int", 4},
		{"type T = int | let x = 1", 6}, {"type T = int | | int", 6}, {"type T = int int", 5}, {"type T = int , int", 5}, {"type T = int -> int", 5}, {"type T = T -> int", 5}, {"type T = int . a", 5}, {"type T = int )", 5},
		{"type T = a . int", 6}, {"type T = a . 1", 6}, {"type T = a . b . c", 7}, {"type T = a . . b", 6}, {"type T = a ( )", 5}, {"type T = a . | b", 6},
		{"type T = { 1 : int }", 5}, {"type T = { a }", 6}, {"type T = { a = int }", 6}, {"type T = { a : }", 7}, {"type T = { a : 1 }", 7}, {"type T = { a : int , }", 9}, {"type T = { , a : int }", 5}, {"type T = { a : int b : int }", 8}, {"type T = { a : int )", 8}, {"type T = { int : int }", 5}, {"type T = { a . b : int }", 6}, {"type T = { } { }", 6}, {"type T = { a : int } -> int", 9},
		{"type T = ( ) let x = 1", 6}, {"type T = ( )", 5}, {"type T = ( ) ( )", 6}, {"type T = ( ) | int", 6}, {"type T = ( int , text ) let x = 1", 9}, {"type T = ( int , text )", 8}, {"type T = ( int , text ) | int", 9}, {"type T = ( ( ) ) -> int", 7}, {"type T = ( int , ) -> int", 7}, {"type T = ( , int ) -> int", 5}, {"type T = ( int text ) -> int", 6}, {"type T = ( int } -> int", 6}, {"type T = ( a : int ) -> int", 6}, {"type T = ( int ) -> | int", 8}, {"type T = ( int ) -> let", 8}, {"type T = ( int ) -> int -> int", 9}, {"type T = ( ( int , int ) ) -> int", 10}, {"type T = ( int ) int", 7}, {"type T = ( ) = int", 6},
		{"let 1 = 1", 2}, {"let in = 1", 2}, {"let x 1", 3}, {"let x == 1", 3}, {"let x ( ) = 1", 3}, {"let x . y = 1", 3}, {"let ( x ) = 1", 2}, {"let { x } = 1", 2}, {"let x : = 1", 4}, {"let x : 1 = 1", 4}, {"let x : int 1", 5}, {"let x : int == 1", 5}, {"let x : int : int = 1", 5}, {"let x : int , y = 1", 5}, {"let x = 1 : int", 5}, {"let x = 1 in x", 5}, {"let x = 1 , 2", 5}, {"let x = 1 x", 5}, {"let x = 1 2", 5}, {"let x = 1 )", 5}, {"let x = 1 = 2", 5}, {"let x = 1 { }", 5}, {"let x = 1 | 2", 5}, {"let x = 1 -> 2", 5}, {"let x = x true", 5}, {"let x = 1 if", 5}, {"let x = 1 then", 5}, {"let x = 1 int", 5},
		{"let x = = 1", 4}, {"let x = )", 4}, {"let x = ( )", 5}, {"let x = int", 4}, {"let x = any", 4}, {"let x = in", 4}, {"let x = then", 4}, {"let x = fn", 4}, {"let x = type T = int", 4}, {"let x = import m", 4}, {"let x = + 1", 4}, {"let x = == 1", 4}, {"let x = . a", 4}, {"let x = , 1", 4}, {"let x = -> 1", 4}, {"let x = | 1", 4}, {"let x = : 1", 4}, {"let x = } 1", 4},
		{"let x = 1 + + 2", 6}, {"let x = 1 + let a = 1 in a", 6}, {"let x = 1 + if a then b else c", 6}, {"let x = 1 == let a = 1 in a", 6}, {"let x = 1 == if a then b else c", 6}, {"let x = 1 == == 2", 6}, {"let x = 1 == 2 == 3", 7}, {"let x = 1 == 2 + 3 == 4", 9}, {"let x = ( 1 == 2 == 3 )", 8}, {"let x = 1 + 2 == 3 + 4 == 5 + 6", 11}, {"let x = 1 + )", 6}, {"let x = 1 == )", 6}, {"let x = 1 + + + +", 6},
		{"let x = a . 1", 6}, {"let x = a . in", 6}, {"let x = a . ( b )", 6}, {`let x = a . "b"`, 6}, {"let x = a . . b", 6}, {"let x = a . int", 6}, {"import m let x = m . 1", 8}, {"let x = 1 . 2", 6},
		{"let x = ( 1 , 2 )", 6}, {"let x = ( 1 2 )", 6}, {"let x = ( 1 }", 6}, {"let x = ( 1 let y = 2", 6}, {"let x = ( let y = 1 )", 9}, {"let x = ( x : int )", 6},
		{"let x = f ( , 1 )", 6}, {"let x = f ( 1 , )", 8}, {"let x = f ( 1 2 )", 7}, {"let x = f ( 1 }", 7}, {"let x = f ( a = 1 )", 7}, {"let x = f ( int )", 6}, {"let x = f ( 1 , , 2 )", 8},
		{"let x = { 1 = 1 }", 5}, {"let x = { a }", 6}, {"let x = { a : 1 }", 6}, {"let x = { a = }", 7}, {"let x = { a = 1 , }", 9}, {"let x = { , a = 1 }", 5}, {"let x = { a = 1 b = 2 }", 8}, {"let x = { a = 1 )", 8}, {"let x = { let = 1 }", 5}, {"let x = { a . b = 1 }", 6}, {"let x = { a == 1 }", 6}, {`let x = { "a" = 1 }`, 5},
		{"let x = if then a else b", 5}, {"let x = if a b", 6}, {"let x = if a else b", 6}, {"let x = if a then else b", 7}, {"let x = if a then b c", 8}, {"let x = if a then b let y = 1", 8}, {"let x = if a then b then c", 8}, {"let x = if a then b else", 8}, {"let x = if a then b else else", 9}, {"let x = if a then b else c else d", 10}, {"let x = if a == b == c then d", 8}, {"let x = if ( a then b", 7},
		{"let x = let 1 = 1 in 1", 5}, {"let x = let a : int = 1 in a", 6}, {"let x = let a 1", 6}, {"let x = let a = 1 let y = 2", 8}, {"let x = let a = in a", 7}, {"let x = let a = 1 in in", 9}, {"let x = let a = 1 in let y = 2 let z = 3", 13}, {"let x = let a = 1 + in", 9}, {"let x = let in = 1 in x", 5}, {"let x = let a = 1 then x", 8}, {"let x = let a = 1 in )", 9},
		{"fn 1 ( ) : int = 1", 2}, {"fn f = 1", 3}, {"fn f : int = 1", 3}, {"fn f ( 1 ) : int = 1", 4}, {"fn f ( a ) : int = 1", 5}, {"fn f ( a = int ) : int = 1", 5}, {"fn f ( a : 1 ) : int = 1", 6}, {"fn f ( a : int , ) : int = 1", 8}, {"fn f ( , a : int ) : int = 1", 4}, {"fn f ( a : int b : int ) : int = 1", 7}, {"fn f ( a : int } : int = 1", 7}, {"fn f ( ) = 1", 5}, {"fn f ( ) -> int = 1", 5}, {"fn f ( ) : = 1", 6}, {"fn f ( ) : int 1", 7}, {"fn f ( ) : int == 1", 7}, {"fn f ( ) : int = )", 8}, {"fn f ( ) : int = fn", 8}, {"fn f ( ) : int = 1 )", 9}, {"fn f ( ( ) : int = 1", 4}, {"fn f ( a , b : int ) : int = 1", 5}, {"fn f ( in : int ) : int = 1", 4}, {"fn f ( ) ( ) : int = 1", 5}, {"fn f ( ) : int , int = 1", 7}, {"fn . f ( ) : int = 1", 2},
	} {
		wantRefusedWord(t, c.words, c.at)
		if !strings.HasPrefix(c.words, "import") {
			wantRefusedWord(t, "import z type Z = int | ( text ) -> { } "+c.words, c.at+13)
		}
	}
}

func TestModulesThatEndTooEarly(t *testing.T) {
	for _, words := range []string{
		"import m",
		"type T = a . b",
		"type T = { a : int , b : ( text , any ) -> bool }",
		"type T = ( int ) -> ( ) -> m . a | T",
		"type T = ( int | text )",
		"let x : { } = { }",
		"let x = { a = 1 , b = f ( x , y ) . c }",
		"let x = if a then b else c + 1 == 2",
		"let x = let a = ( b ) in c . d",
		"fn f ( ) : int = 1",
		"fn f ( a : int , b : T . T ) : ( ) -> int = a ( ) ( b )",
	} {
		list := strings.Fields(words)
		whole := wholeBeginnings(words)
		for count := 1; count < len(list); count++ {
			part := strings.Join(list[:count], " ")
			if slices.Contains(whole, part) {
				mustParse(t, part)
				continue
			}
			wantRefusedWord(t, part, count)
			wantRefused(t, wordPerLine("type Z = int "+part), earlyLine(list[0], count))
		}
		mustParse(t, words)
	}
}

// wholeBeginnings are the beginnings of a text that are whole modules themselves.
func wholeBeginnings(words string) []string {
	return map[string][]string{
		"type T = a . b":                                          {"type T = a"},
		"type T = ( int ) -> ( ) -> m . a | T":                    {"type T = ( int )", "type T = ( int ) -> ( ) -> m", "type T = ( int ) -> ( ) -> m . a"},
		"let x = if a then b else c + 1 == 2":                     {"let x = if a then b else c", "let x = if a then b else c + 1"},
		"let x = let a = ( b ) in c . d":                          {"let x = let a = ( b ) in c"},
		"fn f ( a : int , b : T . T ) : ( ) -> int = a ( ) ( b )": {"fn f ( a : int , b : T . T ) : ( ) -> int = a", "fn f ( a : int , b : T . T ) : ( ) -> int = a ( )"},
	}[words]
}

// earlyLine is that of the last word, or of an import that stands behind a definition.
func earlyLine(first string, count int) int {
	if first == "import" {
		return 5
	}
	return 4 + count
}

func TestTheFirstWordThatDoesNotFitCounts(t *testing.T) {
	wantRefusedWord(t, "let x = ) let y = ) import a import a", 4)
	wantRefusedWord(t, "let x = 1 2 3 4", 5)
	wantRefusedWord(t, "import a import a import 1", 4)
	wantRefusedWord(t, "type T = { a : int , a : int } )", 9)
	wantRefusedWord(t, "let x = { a = 1 , b = ) , a = 2 }", 11)
}

func TestWhatStandsTwice(t *testing.T) {
	for _, c := range []struct {
		words string
		at    int
	}{
		{"import a import a", 4},
		{"import a import b import c import b import a", 8},
		{"import a import a let x = 1", 4},
		{"fn f ( a : int , a : int ) : int = 1", 8},
		{"fn f ( a : int , b : int , c : text , a : int ) : int = 1", 16},
		{"fn f ( a : int , b : int , b : text , a : int ) : int = 1", 12},
		{"fn f ( a : int ) : int = 1 fn f ( a : int , b : int , a : int ) : int = 1", 23},
		{"type T = { a : int , a : int }", 9},
		{"type T = { b : int , a : { b : int } , b : text }", 17},
		{"type T = { a : { c : int , c : int } , a : int }", 12},
		{"let x : { a : int , a : text } = 1", 9},
		{"fn f ( x : { a : int , a : text } ) : int = 1", 11},
		{"fn f ( ) : ( { a : int , a : text } ) -> int = 1", 12},
		{"let r = { a = 1 , a = 2 }", 9},
		{"let r = { a = 1 , b = { a = 1 } , a = 2 }", 17},
		{"let r = f ( 1 , { c = 1 , b = 2 , b = 3 } )", 17},
		{"let r = { a = { c = 1 , c = 2 } , a = 1 }", 12},
	} {
		wantRefusedWord(t, c.words, c.at)
	}
	// in places of their own the same name may stand again
	mustParse(t, "import a import f import x let a = 1 let a = 2 type a = int type a = text fn a(a: int): int = 1 fn f(f: int, a: {a: a, f: a}): a = {a = {a = {a = 1}}, f = let a = 1 in let a = 2 in a}")
}

// nestedType has int so many below it, by what is told to be put around.
func nestedType(times int, open, shut string) string {
	return strings.Repeat(open+" ", times) + "int" + strings.Repeat(" "+shut, times)
}

func TestTypesThatWouldBeTooDeep(t *testing.T) {
	const most = impl.MaxDeep
	for _, around := range [][2]string{{"{ a :", "}"}, {"( ) -> (", ")"}, {"(", ") -> int"}, {"( int ,", ") -> int"}, {"{ b : text , a :", "}"}} {
		open, shut := around[0], around[1]
		mustParse(t, "type T = "+nestedType(most, open, shut))
		mustParse(t, "type T = "+nestedType(most, open, shut)+" | any")
		mustParse(t, "type T = "+nestedType(most, open, shut)+" | int | any")
		mustParse(t, "type T = "+nestedType(most-1, open, shut)+" | int")
		wantRefused(t, "let x = 1\ntype T = "+nestedType(most+1, open, shut)+"\nlet y = 2", 2)
		wantRefused(t, "let x = 1\ntype T = "+nestedType(most, open, shut)+"\n| int\nlet y = 2", 3)
		wantRefused(t, "let x = 1\nlet y: "+nestedType(most+1, open, shut)+" = 2\nlet z = 3", 2)
		wantRefused(t, "fn f(\na: "+nestedType(most+1, open, shut)+"\n): int = 1", 2)
		wantRefused(t, "fn f(\na: int\n): "+nestedType(most+1, open, shut)+"\n= 1", 3)
		// the word that makes whole what is too deep
		head := len(strings.Fields("type T = "+open)) + most*len(strings.Fields(open)) + 1
		tail := (most + 1) * len(strings.Fields(shut))
		for _, times := range []int{most + 1, most + 2, most + 30} {
			more := (times - most - 1) * len(strings.Fields(open))
			wantRefusedWord(t, "type T = "+nestedType(times, open, shut), head+more+tail)
			wantRefusedWord(t, "type T = "+nestedType(times, open, shut)+" | any let y = 1", head+more+tail)
		}
		wantRefusedWord(t, "type T = "+nestedType(most, open, shut)+" | int let y = 1", head-len(strings.Fields(open))+tail-len(strings.Fields(shut))+2)
		wantRefusedWord(t, "type T = text | bool | "+nestedType(most, open, shut)+" let y = 1", head+4-len(strings.Fields(open))+tail-len(strings.Fields(shut)))
	}
	wantRefusedWord(t, "type T = "+strings.Repeat("( ) -> ", most+1)+"m . T let x = 1", 3+3*(most+1)+3)
	wantRefusedWord(t, "type T = "+strings.Repeat("( ) -> ", most)+"( int | text ) let x = 1", 3+3*most+5)
	mustParse(t, "type T = "+strings.Repeat("( ) -> ", most-1)+"( int | text )")
	mustParse(t, "type T = "+strings.Repeat("( ) -> ", most)+"( int | int )")
	mustParse(t, "type T = "+strings.Repeat("( ) -> ", most)+"( int | text | any )")
	mustParse(t, "type T = "+strings.Repeat("(", 1000)+"int"+strings.Repeat(")", 1000))
	mustParse(t, "type T = "+strings.Repeat("(", 700)+"int"+strings.Repeat("|a)", 700))
}

// nestedExp has what is told so many below it.
func nestedExp(times int, open, inner, shut string) string {
	return strings.Repeat(open+" ", times) + inner + strings.Repeat(" "+shut, times)
}

func TestMaxNest(t *testing.T) {
	const most = impl.MaxNest
	for _, around := range [][2]string{
		{"", "+ 1"}, {"1 + (", ")"}, {"(", ") == 1"}, {"1 == (", ")"}, {"", ". a"}, {"", "( )"}, {"f (", ")"}, {"f ( 1 , 2 , 3 , 4 , 5 ,", ")"}, {"{ a =", "}"}, {"{ b = 1 , a =", ", c = 2 }"},
		{"if", "then 1 else 2"}, {"if a then", "else 2"}, {"if a then 1 else", ""}, {"let a =", "in 1"}, {"let a = 1 in", ""}, {"( let a =", "in 1 ) + 1"},
	} {
		open, shut := around[0], around[1]
		per := 1
		if strings.HasPrefix(open, "( let") {
			per = 2
		}
		for _, inner := range []string{"1", "x", "{ }", "true", "( 1 )", "( ( x ) )"} {
			for _, head := range []string{"let x = ", "let x: int = ", "fn f(): int = ", "let y = 1\n\nlet x = "} {
				at := most / per
				mustParse(t, head+nestedExp(at, open, inner, shut))
				mustParse(t, head+nestedExp(at, open, inner, shut)+" let z = 2")
				for _, times := range []int{at + 1, at + 2, 40} {
					wantRefused(t, "\n\n"+head+nestedExp(times, open, inner, shut), 1)
					wantRefused(t, "\n"+head+nestedExp(times, open, inner, shut)+"\nlet z = 2", 1)
				}
			}
		}
	}
	// an import's name and what it has are one
	mustParse(t, "import m let x = "+nestedExp(most, "", "m.v", ". a"))
	wantRefused(t, "let x = "+nestedExp(most, "", "m.v", ". a"), 1)
	wantRefused(t, "import m\nlet x = "+nestedExp(most+1, "", "m.v", ". a"), 1)
	// what else is wrong is named ahead of it
	tooDeep := "let x = " + nestedExp(most+1, "", "1", "+ 1")
	wantRefused(t, "\n"+tooDeep+"\n)", 3)
	wantRefused(t, tooDeep+"\n+", 2)
	wantRefused(t, "\n"+tooDeep+"\n!", 3)
	wantRefused(t, "\n"+tooDeep+"\ntype T = {a: int,\na: int}", 4)
	wantRefused(t, "\n\n"+tooDeep+"\nfn f(a: int,\na: int): int = 1", 5)
	wantRefused(t, "\n"+tooDeep+"\ntype T = "+nestedType(impl.MaxDeep+1, "{ a :", "}"), 3)
	wantRefused(t, "\n"+tooDeep+"\nlet y = "+nestedExp(most+1, "", "1", ". a"), 1)
}

// shownModules are modules with what shows them.
var shownModules = []struct {
	m    impl.Module
	text string
}{
	{impl.Module{}, ""},
	{moduleOf("a"), "import a\n"},
	{moduleOf("b a b"), "import b\nimport a\nimport b\n"},
	{moduleOf("m", typeDef("T", intT), letDef("x", exInt(1))), "import m\ntype T = int\nlet x = 1\n"},
	{moduleOf("", typeDef("T", recordT("a b", unionT(intT, textT), fnT(anyT, nameT("m.T"))))), "type T = {a: int | text, b: (any) -> m.T}\n"},
	{moduleOf("", typeDef("T", unionT(textT, intT))), "type T = \n"},
	{moduleOf("", letDef("x", exInt(-5))), "let x = -5\n"},
	{moduleOf("", letDef("x", exInt(math.MinInt))), "let x = -9223372036854775808\n"},
	{moduleOf("", letDef("x", exText("a b"))), "let x = \"a b\"\n"},
	{moduleOf("", letDef("x", exText(""))), "let x = \"\"\n"},
	{moduleOf("", letDef("x", exTrue), letDef("y", exFalse)), "let x = true\nlet y = false\n"},
	{moduleOf("", letDef("x", exName("y"))), "let x = y\n"},
	{moduleOf("", letDef("x", exMod("m", "v"))), "let x = m.v\n"},
	{moduleOf("", letDef("x", exField(exMod("m", "v"), "a"))), "let x = m.v.a\n"},
	{moduleOf("", letDef("x", exField(exField(exInt(1), "a"), "b"))), "let x = 1.a.b\n"},
	{moduleOf("", letDef("x", exRecord(""))), "let x = {}\n"},
	{moduleOf("", letDef("x", exRecord("a", exInt(1)))), "let x = {a = 1}\n"},
	{moduleOf("", letDef("x", exRecord("b a c", exInt(1), exRecord(""), exRecord("a", exTrue)))), "let x = {b = 1, a = {}, c = {a = true}}\n"},
	{moduleOf("", letDef("x", exCall(exName("f")))), "let x = f()\n"},
	{moduleOf("", letDef("x", exCall(exName("f"), exInt(1)))), "let x = f(1)\n"},
	{moduleOf("", letDef("x", exCall(exCall(exName("f"), exInt(1), exName("a"), exTrue), exText("s")))), "let x = f(1, a, true)(\"s\")\n"},
	{moduleOf("", letDef("x", exIf(exTrue, exInt(1), exInt(2)))), "let x = if true then 1 else 2\n"},
	{moduleOf("", letDef("x", exIf(exIf(exTrue, exTrue, exTrue), exAdd(exInt(1), exInt(2)), exSame(exInt(1), exInt(2))))), "let x = if (if true then true else true) then (1 + 2) else (1 == 2)\n"},
	{moduleOf("", letDef("x", exAdd(exInt(1), exInt(2)))), "let x = 1 + 2\n"},
	{moduleOf("", letDef("x", exAdd(exAdd(exInt(1), exInt(2)), exAdd(exInt(3), exInt(4))))), "let x = (1 + 2) + (3 + 4)\n"},
	{moduleOf("", letDef("x", exSame(exAdd(exInt(1), exInt(2)), exSame(exInt(3), exInt(4))))), "let x = (1 + 2) == (3 == 4)\n"},
	{moduleOf("", letDef("x", exIn("a", exInt(1), exName("a")))), "let x = let a = 1 in a\n"},
	{moduleOf("", letDef("x", exIn("a", exIn("b", exInt(1), exInt(2)), exIn("c", exInt(3), exIf(exTrue, exInt(1), exInt(2)))))), "let x = let a = (let b = 1 in 2) in (let c = 3 in (if true then 1 else 2))\n"},
	{moduleOf("", letDef("x", exRecord("a b c d", exAdd(exInt(1), exInt(2)), exSame(exInt(1), exInt(2)), exIf(exTrue, exInt(1), exInt(2)), exIn("a", exInt(1), exInt(2))))), "let x = {a = (1 + 2), b = (1 == 2), c = (if true then 1 else 2), d = (let a = 1 in 2)}\n"},
	{moduleOf("", letDef("x", exCall(exAdd(exInt(1), exInt(2)), exAdd(exInt(1), exInt(2)), exSame(exInt(1), exInt(2)), exIf(exTrue, exInt(1), exInt(2)), exIn("a", exInt(1), exInt(2))))), "let x = (1 + 2)((1 + 2), (1 == 2), (if true then 1 else 2), (let a = 1 in 2))\n"},
	{moduleOf("", letDef("x", exField(exIf(exTrue, exInt(1), exInt(2)), "a")), letDef("y", exField(exIn("a", exInt(1), exInt(2)), "a")), letDef("z", exField(exSame(exInt(1), exInt(2)), "a"))), "let x = (if true then 1 else 2).a\nlet y = (let a = 1 in 2).a\nlet z = (1 == 2).a\n"},
	{moduleOf("", typedLet("x", unionT(intT, textT), exAdd(exInt(1), exInt(2)))), "let x: int | text = 1 + 2\n"},
	{moduleOf("", typedLet("x", fnT(intT), exSame(exInt(1), exInt(2)))), "let x: () -> int = 1 == 2\n"},
	{moduleOf("", fnDef("f", "", nil, intT, exInt(1))), "fn f(): int = 1\n"},
	{moduleOf("", fnDef("f", "a", listT(anyT), unionT(fnT(intT), textT), exIf(exTrue, exInt(1), exInt(2)))), "fn f(a: any): (() -> int) | text = if true then 1 else 2\n"},
	{moduleOf("", fnDef("f", "b a", listT(recordT("n", nameT("T")), fnT(unionT(intT, textT))), nameT("m.T"), exIn("q", exInt(1), exInt(2)))), "fn f(b: {n: T}, a: () -> (int | text)): m.T = let q = 1 in 2\n"},
	{moduleOf("", impl.Def{Kind: impl.DefFn, Name: "f"}), "fn f(): int = 0\n"},
	{moduleOf("", impl.Def{Kind: 3, Name: "f", Params: []string{"a"}, Types: listT(textT), Type: boolT, Exp: exName("a")}), "fn f(a: text): bool = a\n"},
	{moduleOf("", impl.Def{Kind: -1, Name: "f", Type: textT, Exp: exAdd(exInt(1), exInt(2))}), "fn f(): text = 1 + 2\n"},
	{moduleOf("", impl.Def{Kind: math.MaxInt, Typed: true}), "fn (): int = 0\n"},
	{moduleOf("", impl.Def{Kind: impl.DefLet, Name: "x", Type: textT}), "let x = 0\n"},
	{moduleOf("", impl.Def{Kind: impl.DefType, Name: "x", Type: textT, Typed: true, Params: []string{"a"}, Exp: exName("a")}), "type x = text\n"},
	{moduleOf("", letDef("x", impl.Exp{Kind: 13, Text: "a", N: 5, Names: []string{"a"}, Kids: []impl.Exp{exInt(1)}})), "let x = \n"},
	{moduleOf("", letDef("x", impl.Exp{Kind: -1})), "let x = \n"},
	{moduleOf("", letDef("x", impl.Exp{Kind: math.MinInt}), letDef("y", impl.Exp{Kind: math.MaxInt})), "let x = \nlet y = \n"},
	{moduleOf("", letDef("x", exAdd(impl.Exp{Kind: 13}, exCall(impl.Exp{Kind: -1}, impl.Exp{Kind: 99})))), "let x =  + ()\n"},
	{moduleOf("", letDef("x", impl.Exp{Kind: impl.ExInt, N: 3, Text: "no", Line: 9, Names: []string{"no"}, Kids: []impl.Exp{exInt(1)}})), "let x = 3\n"},
	{moduleOf("", letDef("x", impl.Exp{Kind: impl.ExName, Text: "a", Kids: []impl.Exp{exInt(1)}})), "let x = a\n"},
	{impl.Module{Imports: []string{"", "a b", "\xff"}}, "import \nimport a b\nimport \xff\n"},
}

func TestShownModules(t *testing.T) {
	for _, c := range shownModules {
		if got := impl.ShowModule(c.m); got != c.text {
			t.Errorf("ShowModule(%+v) = %q, want %q", c.m, got, c.text)
		}
	}
}

func TestShownTypes(t *testing.T) {
	for _, c := range rightTypes {
		m := moduleOf("", typeDef("T", c.t), typedLet("x", c.t, exInt(1)), fnDef("f", "a b", listT(c.t, intT), c.t, exInt(1)))
		want := "type T = " + c.text + "\nlet x: " + c.text + " = 1\nfn f(a: " + c.text + ", b: int): " + c.text + " = 1\n"
		if got := impl.ShowModule(m); got != want {
			t.Errorf("%q, want %q", got, want)
		}
	}
	for _, c := range wrongTypes {
		m := moduleOf("", typeDef("T", c.t), typedLet("x", c.t, exInt(1)), fnDef("f", "a b", listT(c.t, intT), c.t, exInt(1)))
		if got := impl.ShowModule(m); got != "type T = \nlet x:  = 1\nfn f(a: , b: int):  = 1\n" {
			t.Errorf("%s: %q", c.what, got)
		}
	}
}

func TestShownModulesThatLackSomething(t *testing.T) {
	for kind := -1; kind <= 13; kind++ {
		for names := range 3 {
			for kids := range 4 {
				e := impl.Exp{Kind: kind, Text: "t", Names: []string{"a", "b"}[:names], Kids: []impl.Exp{exInt(1), exInt(2), exInt(3)}[:kids]}
				for _, d := range []impl.Def{letDef("x", e), letDef("x", exAdd(e, e)), {Kind: 2, Params: []string{"a", "b"}[:names], Types: listT(intT, textT, anyT)[:kids], Exp: e}} {
					text := impl.ShowModule(moduleOf("", d))
					if strings.Count(text, "\n") != 1 || !strings.HasSuffix(text, "\n") || !impl.SameModule(moduleOf("", d), moduleOf("", d)) {
						t.Errorf("%+v is shown as %q", d, text)
					}
				}
			}
		}
	}
}

// wantComesBack holds promise 4: what is read and shown is read as the same one.
func wantComesBack(t *testing.T, m impl.Module) {
	t.Helper()
	text := impl.ShowModule(m)
	if len(text) > impl.MaxSource {
		return
	}
	again, line := impl.ParseModule(text)
	if line != 0 || !impl.SameModule(m, again) || !impl.SameModule(again, m) || !alikeModules(m, again) {
		t.Fatalf("%q, shown of %+v, is read as %+v, %d", text, m, again, line)
	}
	if shown := impl.ShowModule(again); shown != text {
		t.Fatalf("%q is shown as %q", text, shown)
	}
}

func TestModulesComeBack(t *testing.T) {
	types := []string{"int", "text", "bool", "any", "T", "m.T", "{}", "{b: int, a: {c: text | int}}", "() -> int", "(int, text) -> (bool) -> any | int", "() -> (text | int)", "text | int | {} | m.m", "((((T))))", "(() -> int | text) -> T"}
	exps := []string{"0", "999999999", `""`, `"a # b"`, "true", "false", "x", "m.v", "(m).v", "x.m", "m.m.m", "{}", "{b = 1, a = x}", "f()", "f(1, 2, 3, 4, 5, 6)", "m.f(m).m", "if x then y else z", "1 + 2", "1 + 2 + 3", "1 + (2 + 3)", "1 == 2", "1 + 2 == 2 + 1", "let a = 1 in a", "1.a", "(1)(2)"}
	around := []string{"%", "(%)", "(%).a", "(%)(1)", "f(%)", "f(1, %, (%))", "{a = %}", "{b = %, a = (%)}", "if % then % else %", "let a = % in %", "(%) + (%)", "(%) == (%)", "1 + (%) + 2", "m.v(%).b", "(let m = % in m).m"}
	for _, x := range types {
		wantComesBack(t, mustParse(t, "import m import n type T = "+x+" let a: "+x+" = 1 fn f(): "+x+" = 1 fn f(a: "+x+", b: "+x+"): int = a"))
	}
	for _, inner := range exps {
		for _, a := range around {
			e := strings.ReplaceAll(a, "%", inner)
			wantComesBack(t, mustParse(t, "import m let x = "+e+" let x: int = "+e+" fn f(): int = "+e))
			for _, b := range around {
				wantComesBack(t, mustParse(t, "import m let x = "+strings.ReplaceAll(b, "%", e)))
			}
		}
	}
}
