package tests

import (
	"slices"
	"strconv"
	"strings"
	"testing"

	"loop.example/g00276/impl"
)

const (
	mostLines   = 150
	mostModules = 20
)

func wantReadType(t *testing.T, s string, want impl.Type) {
	t.Helper()
	got, ok := impl.ReadType(s)
	if !ok || !sameType(got, want) {
		t.Errorf("ReadType(%q) = %+v, %t, want %+v", s, got, ok, want)
		return
	}
	again, ok := impl.ReadType(impl.TypeText(got))
	if !ok || !sameType(again, want) {
		t.Errorf("ReadType(%q), shown and read again, is %+v, %t", s, again, ok)
	}
}

func wantNoReadType(t *testing.T, s string) {
	t.Helper()
	if got, ok := impl.ReadType(s); ok || !isZeroType(got) {
		t.Errorf("ReadType(%.300q) = %+v, %t, want none", s, got, ok)
	}
}

func TestReadTypeOfEachKind(t *testing.T) {
	for s, want := range map[string]impl.Type{
		"int": intT, "text": textT, "bool": boolT, "any": anyT,
		"T": nameT("T"), "m.T": nameT("m.T"), "abcdefghijkl": nameT("abcdefghijkl"), "abcdefghijkl.ABCDEFGHIJKL": nameT("abcdefghijkl.ABCDEFGHIJKL"),
		"{}": recordT(""), "{a: int}": recordT("a", intT), "{a: int, b: m.T}": recordT("a b", intT, nameT("m.T")),
		"() -> int": fnT(intT), "(int) -> text": fnT(intT, textT), "(int, T, {}) -> bool": fnT(intT, nameT("T"), recordT(""), boolT),
		"int | text": unionT(intT, textT), "() -> (int | text)": fnT(unionT(intT, textT)),
		"(() -> int) | text": unionT(fnT(intT), textT), "(int) -> (text) -> bool": fnT(intT, fnT(textT, boolT)),
		"{next: L | {}}": recordT("next", unionT(nameT("L"), recordT(""))), "(int)": intT, "((int))": intT, "(int | text)": unionT(intT, textT),
	} {
		wantReadType(t, s, want)
	}
	// more of them than a call may be given
	wantReadType(t, "(int, int, int, int, int, int, int, int) -> int", fnT(slices.Repeat(listT(intT), 9)...))
}

func TestReadTypeWithBlanks(t *testing.T) {
	want := unionT(fnT(intT, nameT("m.T")), recordT("a b", textT, boolT))
	words := strings.Fields("( ( int ) -> m . T ) | { b : bool , a : text }")
	wantReadType(t, strings.Join(words, ""), want)
	for _, blank := range blankTexts {
		wantReadType(t, strings.Join(words, blank), want)
		wantReadType(t, blank+strings.Join(words, blank), want)
		wantReadType(t, blank+strings.Join(words, blank)+blank, want)
	}
	wantReadType(t, "int # what stands behind it | text", intT)
	for _, s := range []string{"in t", "- > int", "(int) - > int", "m .\tT", "int\t", "\rint", "int\r", "int\x00", "\xffint", "int#\ntext"} {
		wantNoReadType(t, s)
	}
}

func TestReadTypeWithSomethingLeft(t *testing.T) {
	for _, s := range []string{
		"int int", "int,", "int )", "int }", "int =", "int == int", "int +", "int 1", "int \"\"", "int .", "int : int", "int -> int", "{} {}", "T (int)",
		"m.T.U", "int let", "int let x = 1", "int type y = int", "int import a", "int fn f(): int = 1", "() -> int -> int", "int\n--", "int <: int", "int;",
	} {
		wantNoReadType(t, s)
	}
}

func TestReadTypeOfWhatIsNone(t *testing.T) {
	for _, s := range []string{
		"", " ", "\n", "# int", "#", ")", "(", "{", "}", "|", "->", "(int", "(int,", "(int)->", "(int,)", "(int,) -> int", "(,) -> int", "()", "(int, int)", "{a}", "{a:}",
		"{a: int", "{a: int,}", "{a: int b: int}", "{a = int}", "{1: int}", "{int: int}", "int |", "| int", "int | | int", "int || int", "int,int",
		".T", "m.", "m..T", "m.let", "let.T", "int.T", "m.int", "let", "import", "true", "1", "\"int\"", "abcdefghijklm", "m.abcdefghijklm", "a1.1a", "type x = int",
	} {
		wantNoReadType(t, s)
	}
}

func TestReadTypeOfUnionsAndRecords(t *testing.T) {
	wantReadType(t, "text | int", unionT(intT, textT))
	wantReadType(t, "int | int", intT)
	wantReadType(t, "text | int | text | (int | text)", unionT(intT, textT))
	wantReadType(t, "bool | (text | (int | bool))", unionT(boolT, intT, textT))
	wantReadType(t, "int | any", anyT)
	wantReadType(t, "{a: int | any}", recordT("a", anyT))
	wantReadType(t, "(text | int) -> (bool | T)", fnT(unionT(intT, textT), unionT(nameT("T"), boolT)))
	wantReadType(t, "{c: int, a: text, b: T}", recordT("a b c", textT, nameT("T"), intT))
	wantReadType(t, "{b: int, a: text} | {a: text, b: int}", recordT("a b", textT, intT))
	// of what stands behind the arrow the first one alone
	wantReadType(t, "() -> int | text", unionT(fnT(intT), textT))
	for _, s := range []string{"{a: int, a: int}", "{a: int, b: text, a: bool}", "{x: {a: int, a: text}}", "int | {a: int, a: int}", "({a: int, a: int}) -> int"} {
		wantNoReadType(t, s)
	}
}

func TestReadTypeAtMaxDeep(t *testing.T) {
	const most = impl.MaxDeep
	for _, c := range []struct {
		open, shut string
		wrap       func(x impl.Type) impl.Type
	}{
		{"{ a :", "}", func(x impl.Type) impl.Type { return recordT("a", x) }},
		{"( ) -> (", ")", func(x impl.Type) impl.Type { return fnT(x) }},
		{"(", ") -> text", func(x impl.Type) impl.Type { return fnT(x, textT) }},
	} {
		for _, times := range []int{1, most - 1, most} {
			wantReadType(t, nestedType(times, c.open, c.shut), deepened(intT, times, c.wrap))
		}
		wantReadType(t, nestedType(most-1, c.open, c.shut)+" | int", unionByText(intT, deepened(intT, most-1, c.wrap)))
		wantReadType(t, nestedType(most, c.open, c.shut)+" | any", anyT)
		wantNoReadType(t, nestedType(most, c.open, c.shut)+" | int")
		wantNoReadType(t, nestedType(most+1, c.open, c.shut))
		wantNoReadType(t, nestedType(most+1, c.open, c.shut)+" | any")
		wantNoReadType(t, nestedType(100, c.open, c.shut))
	}
	// round brackets are no part of a type
	wantReadType(t, deepText(1490, "(", ")"), intT)
	wantNoReadType(t, deepText(1490, "(", "")+strings.Repeat(")", 1489))
}

// unionByText has its kids in the order of their texts.
func unionByText(kids ...impl.Type) impl.Type {
	slices.SortFunc(kids, func(a, b impl.Type) int { return strings.Compare(impl.TypeText(a), impl.TypeText(b)) })
	return unionT(kids...)
}

func TestReadTypeAtMaxSource(t *testing.T) {
	blanks := strings.Repeat(" ", impl.MaxSource-len("int"))
	wantReadType(t, "int"+blanks, intT)
	wantReadType(t, blanks+"int", intT)
	wantNoReadType(t, "int "+blanks)
	wantNoReadType(t, " "+blanks+"int")
	wantNoReadType(t, strings.Repeat("x", 10000000))
	wide := "{x0: int"
	names, kids := []string{"x0"}, listT(intT)
	for i := 1; i < 290; i++ {
		wide += ",x" + strconv.Itoa(i) + ":int"
		names, kids = append(names, "x"+strconv.Itoa(i)), append(kids, intT)
	}
	slices.Sort(names)
	if got, ok := impl.ReadType(wide + "}"); !ok || !sameType(got, recordT(strings.Join(names, " "), kids...)) {
		t.Errorf("a record of %d fields: %t", len(kids), ok)
	}
}

// script has a newline behind each line.
func script(list ...string) string {
	return strings.Join(append(slices.Clone(list), ""), "\n")
}

// wantDesk holds what a desk tells of some lines against its answers.
func wantDesk(t *testing.T, lines []string, want ...string) {
	t.Helper()
	if got := impl.Desk(script(lines...)); got != script(want...) {
		t.Errorf("Desk of\n%.3000s\ntells\n%.3000s\nwant\n%.3000s", script(lines...), got, script(want...))
	}
}

// behind are some lines behind modules of these names and texts, each of which is told by ok.
func behind(list []impl.Source, more ...string) []string {
	var out []string
	for _, s := range list {
		out = append(out, strings.Split("module "+s.Name+"\n"+s.Text+"--", "\n")...)
	}
	return append(out, more...)
}

// wantBehind is wantDesk behind modules.
func wantBehind(t *testing.T, list []impl.Source, lines []string, want ...string) {
	t.Helper()
	wantDesk(t, behind(list, lines...), append(slices.Repeat([]string{"ok"}, len(list)), want...)...)
}

// wantEach holds each line alone behind modules against its answer.
func wantEach(t *testing.T, list []impl.Source, pairs ...string) {
	t.Helper()
	for i := 0; i+1 < len(pairs); i += 2 {
		wantBehind(t, list, pairs[i:i+1], pairs[i+1])
	}
}

func TestConstantOfTheDesk(t *testing.T) {
	if impl.MaxScript != 12000 {
		t.Error(impl.MaxScript)
	}
}

// deskSet has right modules and wrong ones.
func deskSet() []impl.Source {
	return sourcesOf(
		"a", "import b\ntype T = {k: int}\nlet x = b.v + 1\nlet y: T = {k = x}\nfn f(n: int): T = {k = n}\n",
		"b", "let v = 1\n",
		"c", "import d\nlet w = d.x\nlet z = w + 1\n",
		"d", "let x = 1 + true\n\n\nlet y = none\n",
		"e", "let\n",
	)
}

func TestEachLineAlone(t *testing.T) {
	wantEach(t, nil,
		"report", "", "order", "-", "check a", "none", "summary a", "none", "run a", "-",
		"tick", "none", "deliver 0", "none", "drop 0", "none", "twice 0", "none", "crash 0", "none", "up 0", "none", "calm", "none", "done", "none",
		"farm 1", "ok", "farm 30", "ok", "module a", "ok", "fits int <: any", "yes", "fits int <: text", "no", "fits int", "what",
	)
	wantEach(t, deskSet(),
		"report", "a: ok;b: ok;c: ok;d: 1:plus 4:name;e: 1:syntax;",
		"order", "b d e a c",
		"check a", "a: ok;", "check c", "c: ok;", "check d", "d: 1:plus 4:name;", "check e", "e: 1:syntax;", "check f", "none", "check B", "none",
		"summary a", "module a;type a.T = {k: int};f: (int) -> a.T;x: int;y: a.T;",
		"summary b", "module b;v: int;",
		"summary c", "module c;w: any;z: any;",
		"summary d", "module d bad;", "summary e", "module e bad;", "summary f", "none",
		"tick", "none", "calm", "none", "done", "none", "farm 5", "ok",
	)
	wantEach(t, sourcesOf("m", "let a = 1\nlet b = \"x y\"\nlet c = {q = true, p = {}}\nfn f(x: int): int = x\nlet g = f\n"),
		"run m", `a=1 b="x y" c={p = {}, q = true} f=fn m.f g=fn m.f`, "run n", "-", "summary m", "module m;a: int;b: text;c: {p: {}, q: bool};f: (int) -> int;g: (int) -> int;")
}

func TestLinesOneBehindTheOther(t *testing.T) {
	wantDesk(t, []string{
		"report", "module a", "import b", "let x = b.v", "--", "report", "check a", "module b", "let v = 1", "--", "report", "check a", "summary a", "order", "run a", "run b",
		"farm 2", "tick", "deliver 0", "deliver 0", "done", "tick", "done", "deliver 0", "deliver 0", "done", "fits {a: int} <: {}", "nothing",
	},
		"", "ok", "a: 1:import;", "a: 1:import;", "ok", "a: ok;b: ok;", "a: ok;", "module a;x: int;", "b a", "x=1", "v=1",
		"ok", "0 1", "0 1", "1 0", "wait", "1 1", "wait", "1 1", "2 0", "a: ok;b: ok;", "yes", "what")
}

func TestModulesInThePlaceOfOthers(t *testing.T) {
	wantDesk(t, []string{
		"module b", "let v = 1", "--", "module a", "import b", "let x = b.v + 1", "--", "report", "run a",
		"module b", "let v = true", "--", "report", "summary b", "run a", "run b",
		"module b", "--", "report", "order", "module a", "let x = 7", "--", "report", "order", "run a",
	},
		"ok", "ok", "a: ok;b: ok;", "x=2",
		"ok", "a: 2:plus;b: ok;", "module b;v: bool;", "x=stuck", "v=true",
		"ok", "a: 2:name;b: ok;", "b a", "ok", "a: ok;b: ok;", "a b", "x=7")
	// names are told apart by their bytes
	wantDesk(t, []string{"module A", "let x = 1", "--", "module a", "let x = 2", "--", "module a1", "let x = 3", "--", "order", "run A", "run a", "run a1"},
		"ok", "ok", "ok", "A a a1", "x=1", "x=2", "x=3")
	// whatever the order in which they come, they are one set
	wantDesk(t, []string{"module c", "--", "module a", "--", "module b", "--", "report", "farm 1", "tick", "calm", "done"},
		"ok", "ok", "ok", "a: ok;b: ok;c: ok;", "ok", "0 3", "3 0", "a: ok;b: ok;c: ok;")
}

func TestTextsOfModules(t *testing.T) {
	// without an end all that stand behind are its text
	wantDesk(t, []string{"module a", "let x = 1", "report", "order", "run a"}, "ok")
	wantDesk(t, []string{"module a", "let x = 1 + true"}, "ok")
	wantDesk(t, []string{"report", "module a"}, "", "ok")
	wantDesk(t, []string{"module a", "module b", "order", "--", "order", "check a", "check b"}, "ok", "a", "a: 1:syntax;", "none")
	// an empty text
	wantDesk(t, []string{"module a", "--", "report", "summary a", "run a"}, "ok", "a: ok;", "module a;", "-")
	wantDesk(t, []string{"module a", "", "", "--", "report"}, "ok", "a: ok;")
	// the line at which it ends stands alone; another one is of the text
	wantDesk(t, []string{"module a", "--", "--", "order"}, "ok", "what", "a")
	for _, line := range []string{"-- ", " --", "---", "--x", "-", "--\r", "-- --"} {
		wantDesk(t, []string{"module a", line, "--", "check a"}, "ok", "a: 1:syntax;")
		wantDesk(t, []string{"module a", "let x = 1", "#" + line, "let y = 2", "--", "run a"}, "ok", "x=1 y=2")
		wantDesk(t, []string{"module a", "let x = 1", line, "--", "check a"}, "ok", "a: 2:syntax;")
		wantDesk(t, []string{line}, "what")
	}
	wantDesk(t, []string{"--"}, "what")
	// each line has its newline: a note ends with it, and lines count
	wantDesk(t, []string{"module a", "# let y = 1", "let x = 1 # +", "+ 1", "", "let z = true + 1", "--", "check a", "run a"}, "ok", "a: 5:plus;", "x=2 z=stuck")
	// words of the script are words of the text
	wantDesk(t, []string{"module a", "let report = 1", "let", "order = 2", "--", "run a"}, "ok", "report=1 order=2")
	// bytes of any sort
	wantDesk(t, []string{"module a", "# \x00\xff\r\t", "let x = \"~\"", "--", "run a", "module a", "let x = \"\xff\"", "--", "check a"}, "ok", `x="~"`, "ok", "a: 1:syntax;")
}

func TestModulesAtMaxModules(t *testing.T) {
	var lines, want []string
	var names []string
	for i := range mostModules {
		name := "m" + string(rune('a'+i))
		names = append(names, name)
		lines, want = append(lines, "module "+name, "let v = "+strconv.Itoa(i), "--"), append(want, "ok")
	}
	order := strings.Join(names, " ")
	wantDesk(t, append(slices.Clone(lines), "order"), append(slices.Clone(want), order)...)
	// one more is not taken, whatever its name, but its text is gone through; one of the names is
	wantDesk(t, append(slices.Clone(lines), "module a", "order", "--", "order", "module mzz", "--", "module mb1", "let v = 1", "--", "order", "check mb1", "run mb", "module mb", "let v = 99", "--", "order", "run mb"),
		append(slices.Clone(want), "full", order, "full", "full", order, "none", "v=1", "ok", order, "v=99")...)
	// without an end
	wantDesk(t, append(slices.Clone(lines), "module a", "order", "report"), append(slices.Clone(want), "full")...)
	// a line that is none takes no text
	wantDesk(t, append(slices.Clone(lines), "module 1", "order", "--"), append(slices.Clone(want), "what", order, "what")...)
	wantDesk(t, append(slices.Clone(lines[3:]), "module a", "--", "module ma", "--", "order"), append(slices.Clone(want), "full", "a "+strings.Join(names[1:], " "))...)
}

func TestNamesOfModules(t *testing.T) {
	for _, word := range []string{"module", "check", "summary", "run"} {
		answer := map[string]string{"module": "ok", "check": "none", "summary": "none", "run": "-"}[word]
		for _, name := range []string{"a", "Z", "x1", "abcdefghijkl", "module", "report", "done"} {
			wantDesk(t, []string{word + " " + name}, answer)
		}
		for _, name := range []string{"", " ", "a ", " a", "a b", "1", "1a", "a.b", "a_b", "let", "int", "any", "in", "abcdefghijklm", "a\r", "a\t", "a#", "\xc3\xa4", "-", "--", "\"a\""} {
			wantDesk(t, []string{word + " " + name, "order"}, "what", "-")
		}
		wantDesk(t, []string{word, "order"}, "what", "-")
	}
}

func TestRunsOfTheDesk(t *testing.T) {
	wantEach(t, sourcesOf("a", "type T = int\n", "b", ""), "run a", "-", "run b", "-", "run c", "-")
	// what is not parsed is no unit, and of a set with circles there are none
	wantEach(t, sourcesOf("a", "let\n", "b", "let x = 1\n"), "run a", "-", "run b", "x=1")
	wantEach(t, sourcesOf("a", "import b\nlet x = 1\n", "b", "import a\n", "c", "let x = 1\n"), "run a", "-", "run c", "-", "order", "a b c")
	// the first that is stuck, or has no fuel, is the last one, for all units, by their order
	wantEach(t, sourcesOf("a", "import c\nlet x = 1\n", "b", "let u = 1\nlet v = 1 + true\nlet w = 2\n", "c", "let y = 3\n"),
		"run a", "-", "run b", "u=1 v=stuck", "run c", "-", "order", "b c a")
	wantEach(t, sourcesOf("a", "import b\nlet x = b.v\nlet y = 2\n", "b", "let u = 1\n"), "run a", "x=stuck", "run b", "u=1")
	wantEach(t, sourcesOf("a", "let x = 1\nfn f(n: int): int = f(n)\nlet y = f(1)\nlet z = 1\n"), "run a", "x=1 f=fn a.f y=fuel")
	wantEach(t, sourcesOf("a", "let x = {b = 1, a = {}}\nlet y = x.b == 1\nlet z = x.a\nlet x = \"; -\"\n"), "run a", `x={a = {}, b = 1} y=true z={} x="; -"`)
	wantEach(t, sourcesOf("a", "let x = 999999999 + 1\nlet y = true\nlet z = \"\"\n"), "run a", `x=1000000000 y=true z=""`)
}

// fuelText is a module that takes just so much fuel, on one line: a sum of 19 numbers takes 37.
func fuelText(fuel int) string {
	text := ""
	for fuel > 0 {
		count := min(19, (fuel+1)/2)
		text += "let x" + strconv.Itoa(fuel) + "=1" + strings.Repeat("+1", count-1) + " "
		fuel -= 2*count - 1
	}
	return text + "\n"
}

func TestFuelOfTheDesk(t *testing.T) {
	const fuel = 2000
	list := sourcesOf("a", fuelText(fuel/2), "b", fuelText(fuel/2))
	units := impl.Unit0(list)
	for given, want := range map[int]int{fuel: impl.RunOk, fuel - 1: impl.RunFuel} {
		if done := impl.Run(units, given); done[len(done)-1].Code != want {
			t.Fatalf("with %d of fuel the test's own modules end with %d", given, done[len(done)-1].Code)
		}
	}
	told := func(list []impl.Source) string { return impl.Desk(script(behind(list, "run a", "run b", "run c")...)) }
	if got := told(list); strings.Contains(got, "fuel") || !strings.HasSuffix(got, "=1\n-\n") {
		t.Errorf("with just as much fuel: %q", got[max(0, len(got)-80):])
	}
	if got := told(append(list, impl.Source{Name: "c", Text: "let x = 1\n"})); strings.Count(got, "fuel") != 1 || !strings.HasSuffix(got, "=1\nx=fuel\n") {
		t.Errorf("with one more: %q", got[max(0, len(got)-80):])
	}
}

func TestFitsOfTheDesk(t *testing.T) {
	for line, want := range map[string]string{
		"int <: int": "yes", "int <: text": "no", "int <: any": "yes", "any <: int": "yes", "int <: int | text": "yes", "int | text <: int": "no", "text | int <: int | text": "yes",
		"{a: int, b: text} <: {b: text}": "yes", "{b: text} <: {a: int, b: text}": "no", "{a: int} <: {a: any}": "yes", "{} <: {}": "yes",
		"(any) -> int <: (int) -> any": "yes", "(int | text) -> int <: (int) -> int": "yes", "(int) -> int <: (int | text) -> int": "no", "() -> int <: (int) -> int": "no",
		"int<:int": "yes", "  int   <:   int  ": "yes", "(int)<:((int))": "yes", " int <: int": "yes",
		// of no name it is told what it is
		"T <: int": "yes", "int <: T": "yes", "m.T <: U": "yes", "{a: T} <: {a: int, b: int}": "no", "int <: int # <: text": "yes",
		"": "what", "int": "what", "<:": "what", "int <:": "what", "<: int": "what", "int < : int": "what", "int : int": "what", "int < int": "what", "int :> int": "what",
		"int <: int <: int": "what", "int <: <: int": "what", "int <:<: int": "what", "int <: let": "what", "let <: int": "what", "int int <: int": "what", "int <: int int": "what",
		"{a: int, a: int} <: int": "what", "int <: {a: int, a: int}": "what", "int <: \"<:\"": "what", "m.n.T <: int": "what", "int <: text;": "what", "int <: int\r": "what",
		nestedType(12, "{a:", "}") + "<:" + nestedType(12, "{a:", "}"): "yes", nestedType(13, "{a:", "}") + "<:int": "what", "int <:" + nestedType(13, "{a:", "}"): "what",
		"int" + strings.Repeat(" ", 2997) + "<:" + strings.Repeat(" ", 2997) + "int": "yes", "int" + strings.Repeat(" ", 2998) + "<:int": "what", "int<:" + strings.Repeat(" ", 2998) + "int": "what",
	} {
		wantDesk(t, []string{"fits " + line}, want)
		// with the types of no module
		wantBehind(t, sourcesOf("T", "type T = text\nlet v: T = \"\"\n", "m", "type T = text\n"), []string{"fits " + line}, want)
	}
	wantDesk(t, []string{"fits", "fitsint <: int", "fits\tint <: int"}, "what", "what", "what")
}

func TestFarmsOfTheDesk(t *testing.T) {
	list := sourcesOf("a", "import b\nlet x = b.v + 1\n", "b", "let v = 1\n", "c", "let w = 1 + true\n")
	report := "a: ok;b: ok;c: 1:plus;"
	wantBehind(t, list, []string{"farm 2", "calm", "done", "calm", "tick", "done"}, "ok", "3 0", report, "3 0", "3 0", report)
	// events one by one: packets 1 and 2 to the workers 1 and 0, and back
	wantBehind(t, list, []string{"farm 2", "tick", "twice 0", "deliver 0", "deliver 2", "deliver 1", "deliver 1", "done"},
		"ok", "0 2", "0 3", "0 3", "1 2", "1 2", "1 1", "wait")
	wantBehind(t, list, []string{"farm 2", "tick", "drop 0", "drop 0", "drop 0", "tick", "tick", "tick", "deliver 0", "deliver 0", "deliver 0", "deliver 0"},
		"ok", "0 2", "0 1", "0 0", "0 0", "0 0", "0 0", "0 2", "0 2", "0 2", "1 1", "2 0")
	wantBehind(t, list, []string{"farm 2", "tick", "crash 1", "deliver 0", "up 1", "deliver 0", "deliver 0"}, "ok", "0 2", "0 2", "0 1", "0 1", "0 1", "1 0")
	wantBehind(t, list, []string{"farm 1", "crash 0", "tick", "deliver 0", "deliver 0", "calm", "done"}, "ok", "0 0", "0 2", "0 1", "0 0", "3 0", report)
	// leases stand for three ticks
	wantBehind(t, list, []string{"farm 3", "tick", "tick", "tick", "tick", "tick", "tick", "tick"}, "ok", "0 2", "0 2", "0 2", "0 4", "0 4", "0 4", "0 6")
	// places that are none change nothing
	wantBehind(t, list, []string{"farm 2", "tick", "deliver 2", "drop 2", "twice 2", "crash 2", "up 2", "deliver 999999", "calm"},
		"ok", "0 2", "0 2", "0 2", "0 2", "0 2", "0 2", "0 2", "3 0")
	// other lines leave it as it is
	wantBehind(t, list, []string{"farm 2", "tick", "report", "order", "check a", "summary a", "run b", "fits int <: int", "what", "module 1", "farm 0", "farm 31", "tick 1", "deliver 0"},
		"ok", "0 2", report, "b c a", "a: ok;", "module a;x: int;", "v=1", "yes", "what", "what", "what", "what", "what", "0 2")
}

func TestFarmsAheadOfModules(t *testing.T) {
	wantDesk(t, []string{"farm 3", "done", "tick", "deliver 0", "drop 0", "twice 0", "crash 0", "up 0", "calm", "done"},
		"ok", "", "0 0", "0 0", "0 0", "0 0", "0 0", "0 0", "0 0", "")
	wantDesk(t, []string{"farm 3", "module a", "--", "tick", "calm", "done", "farm 3", "tick", "done"}, "ok", "ok", "none", "none", "none", "ok", "0 1", "wait")
}

func TestFarmsBehindOthers(t *testing.T) {
	list := sourcesOf("a", "import b\nlet x = b.v\n", "b", "let v = 1\n")
	// what the one ahead had in its store is done by ticks alone
	wantBehind(t, list, []string{"farm 2", "calm", "farm 1", "tick", "tick", "done"}, "ok", "2 0", "ok", "1 0", "2 0", "a: ok;b: ok;")
	wantBehind(t, list, []string{"farm 2", "tick", "deliver 0", "deliver 0", "farm 30", "tick", "tick", "done"}, "ok", "0 1", "0 1", "1 0", "ok", "1 0", "1 1", "wait")
	wantBehind(t, list, []string{"farm 2", "calm", "farm 2", "farm 2", "tick", "tick"}, "ok", "2 0", "ok", "ok", "1 0", "2 0")
	wantBehind(t, list, []string{"farm 2", "tick", "farm 2", "done", "tick"}, "ok", "0 1", "ok", "wait", "0 1")
	// one that does not begin leaves that ahead
	wantBehind(t, list, []string{"farm 2", "calm", "farm 31", "done"}, "ok", "2 0", "what", "a: ok;b: ok;")
}

func TestModulesBehindFarms(t *testing.T) {
	list := sourcesOf("a", "import b\nlet x = b.v\n", "b", "let v = 1\n")
	gone := []string{"none", "none", "none", "none", "none", "none", "none", "none"}
	lines := []string{"tick", "deliver 0", "drop 0", "twice 0", "crash 0", "up 0", "calm", "done"}
	for _, module := range [][]string{{"module c", "--"}, {"module a", "--"}, {"module b", "let v = 1", "--"}} {
		wantBehind(t, list, slices.Concat([]string{"farm 2", "calm"}, module, lines), append([]string{"ok", "2 0", "ok"}, gone...)...)
	}
	// what is gone has no store: the one that is begun then has nothing done
	wantBehind(t, list, []string{"farm 2", "calm", "module b", "let v = 1", "--", "farm 2", "tick", "calm", "done"}, "ok", "2 0", "ok", "ok", "0 1", "2 0", "a: ok;b: ok;")
	// a line that is none changes nothing
	wantBehind(t, list, []string{"farm 2", "calm", "module let", "module", "done"}, "ok", "2 0", "what", "what", "a: ok;b: ok;")
	// nor does one that is not taken
	var full []impl.Source
	for i := range mostModules {
		full = append(full, impl.Source{Name: "m" + string(rune('a'+i)), Text: "\n"})
	}
	wantBehind(t, full, []string{"farm 2", "calm", "module a", "--", "tick"}, "ok", "20 0", "full", "20 0")
}

func TestNumbersOfTheDesk(t *testing.T) {
	list := sourcesOf("a", "let x = 1\n")
	wrong := []string{"", " ", " 0", "0 ", "  0", "00", "01", "007", "+1", "-1", "-0", "+0", "1000000", "9999999", "99999999999999999999999", "1.0", "1e3", "0x1", "1_0", "one", "1 1", "1a", "\t1", "1\r", "\xb2", "--"}
	for _, word := range []string{"farm", "deliver", "drop", "twice", "crash", "up"} {
		for _, number := range wrong {
			wantDesk(t, []string{word + " " + number}, "what")
			wantBehind(t, list, []string{"farm 1", "tick", word + " " + number, "tick"}, "ok", "0 1", "what", "0 1")
		}
		wantDesk(t, []string{word}, "what")
		wantBehind(t, list, []string{"farm 1", "tick", word}, "ok", "0 1", "what")
	}
	for _, word := range []string{"deliver", "drop", "twice", "crash", "up"} {
		for _, number := range []string{"0", "1", "9", "10", "999999"} {
			wantDesk(t, []string{word + " " + number}, "none")
		}
		wantBehind(t, list, []string{"farm 1", "tick", word + " 999999"}, "ok", "0 1", "0 1")
	}
	for number, want := range map[string]string{"0": "what", "1": "ok", "2": "ok", "9": "ok", "10": "ok", "29": "ok", "30": "ok", "31": "what", "100": "what", "999999": "what", "1000000": "what"} {
		wantDesk(t, []string{"farm " + number}, want)
		wantBehind(t, list, []string{"farm " + number}, want)
	}
	// a farm has as many workers: the first packet goes to the worker 1 by the remainder
	for _, workers := range []int{1, 2, 3, 30} {
		down := []string{"farm " + strconv.Itoa(workers), "crash " + strconv.Itoa(1%workers), "tick", "deliver 0", "tick", "tick", "tick", "deliver 0", "deliver 0"}
		want := []string{"ok", "0 0", "0 1", "0 0", "0 0", "0 0", "0 1", "0 1", "1 0"}
		if workers == 1 {
			want[7], want[8] = "0 0", "0 0"
		}
		wantBehind(t, list, down, want...)
	}
}

// The store has room for 50: with modules of another text each time the first ones are forgotten.
func TestStoresOfTheDesk(t *testing.T) {
	var list []impl.Source
	for i := range mostModules {
		list = append(list, impl.Source{Name: "m" + string(rune('a'+i)), Text: ""})
	}
	wantBehind(t, list, []string{"farm 30", "calm", "farm 30", "tick"}, "ok", "20 0", "ok", "20 0")
}

func TestWordsThatAreNone(t *testing.T) {
	list := sourcesOf("a", "let x = 1\n")
	for _, line := range []string{
		"", " ", "what", "ok", "none", "long", "-", "--", ";", "forget 0", "forget", "start", "farm", "exit", "help", "\x00", "\xff\xfe", "\xc3\xa4", "#", "# report",
		"Report", "REPORT", "Order", "Tick", "TICK", "Done", "Calm", "Check a", "CHECK a", "Summary a", "Run a", "Module b", "MODULE b", "Fits int <: int", "Farm 1", "Deliver 0", "Up 0",
		" report", "report ", "report a", "report  ", "reports", "repor", "\treport", "report\r", "report\t", "report\x00", "report;", " order", "order ", "order a", "ordera",
		" tick", "tick ", "tick 0", "tick tick", "calm ", " calm", "calm 1", "done ", " done", "done 1", "report order",
		" check a", "check  a", "check a ", "check", "check ", "checka", "check\ta", "summary", "summary ", "summary  a", "summary a b", "run", "run ", "run  a", " run a", "run a ", "run a a",
		"module", "module ", " module b", "module  b", "module b ", "moduleb", "module b c", "modules b", " fits int <: int", " farm 1", "farm1", "deliver0", "up  0", "crash\t0",
	} {
		wantDesk(t, []string{line}, "what")
		wantBehind(t, list, []string{line, "order"}, "what", "a")
		wantBehind(t, list, []string{"farm 1", line, "tick"}, "ok", "what", "0 1")
	}
	for b := range 256 {
		if b != '\n' {
			wantDesk(t, []string{string([]byte{byte(b)})}, "what")
			wantDesk(t, []string{"report" + string([]byte{byte(b)})}, "what")
			wantDesk(t, []string{string([]byte{byte(b)}) + "report"}, "what")
		}
	}
}

func wantLong(t *testing.T, what, text string) {
	t.Helper()
	if got := impl.Desk(text); got != "long\n" {
		t.Errorf("%s: Desk tells %.100q", what, got)
	}
}

func TestScriptsAndWhatIsNone(t *testing.T) {
	if got := impl.Desk(""); got != "" {
		t.Errorf("of the empty text: %q", got)
	}
	wantDesk(t, []string{""}, "what")
	for _, s := range []string{"report", "order\nreport", "module a\nlet x = 1\n--", " ", "\nx", "long", "report\n\x00", "report\n\r", "module a"} {
		wantLong(t, "without a newline", s)
	}
	// MaxScript bytes, and one more
	for _, size := range []int{impl.MaxScript - 1, impl.MaxScript} {
		s := "report\n" + strings.Repeat("x", size-len("report\n\n")) + "\n"
		if got := impl.Desk(s); len(s) != size || got != "\nwhat\n" {
			t.Errorf("of %d bytes: %q", len(s), got)
		}
		s = "module a\n# " + strings.Repeat("x", 2000) + "\n--\nreport\n"
		s = strings.Repeat(s, 5) + "#" + strings.Repeat(" ", size-5*len(s)-2) + "\n"
		if got := impl.Desk(s); len(s) != size || got != strings.Repeat("ok\na: ok;\n", 5)+"what\n" {
			t.Errorf("of %d bytes: %q", len(s), got)
		}
	}
	wantLong(t, "one byte more", "report\n"+strings.Repeat("x", impl.MaxScript-len("report\n"))+"\n")
	wantLong(t, "one byte more, within a module", "module a\n#"+strings.Repeat(" ", impl.MaxScript-len("module a\n#\n--\n")+1)+"\n--\n")
	wantLong(t, "many bytes", strings.Repeat("x", 5000000)+"\n")
	// 150 lines, and one more
	for _, count := range []int{mostLines - 1, mostLines} {
		if got := impl.Desk(strings.Repeat("order\n", count)); got != strings.Repeat("-\n", count) {
			t.Errorf("of %d lines: %q", count, got)
		}
		if got := impl.Desk("module a\n" + strings.Repeat("\n", count-3) + "--\norder\n"); got != "ok\na\n" {
			t.Errorf("of %d lines within a module: %q", count, got)
		}
		if got := impl.Desk(strings.Repeat("\n", count)); got != strings.Repeat("what\n", count) {
			t.Errorf("of %d empty lines: %q", count, got)
		}
	}
	wantLong(t, "one line more", strings.Repeat("order\n", mostLines+1))
	wantLong(t, "one empty line more", strings.Repeat("\n", mostLines+1))
	wantLong(t, "one line more within a module", "module a\n"+strings.Repeat("\n", mostLines-2)+"--\norder\n")
	wantLong(t, "one line more within a module without an end", "module a\n"+strings.Repeat("\n", mostLines))
	wantLong(t, "many lines", strings.Repeat("\n", impl.MaxScript))
}

// A text of a module beyond MaxSource is of a set all the same, but not parsed.
func TestModulesAtMaxSource(t *testing.T) {
	text := "let x = 1\n#" + strings.Repeat(" ", impl.MaxSource-len("let x = 1\n#\n"))
	wantDesk(t, []string{"module a", text, "--", "report", "run a"}, "ok", "a: ok;", "x=1")
	wantDesk(t, []string{"module a", text + " ", "--", "report", "run a"}, "ok", "a: 1:syntax;", "-")
}

func TestCirclesOfTheDesk(t *testing.T) {
	list := sourcesOf("a", "import b\n", "b", "import a\n", "c", "import a\nlet x = a.v\n", "d", "import d\n")
	wantEach(t, list,
		"report", "a: 1:circle;b: 1:circle;c: ok;d: 1:circle;", "order", "a b d c", "check a", "a: 1:circle;", "summary a", "module a bad;", "summary c", "module c;x: any;", "run c", "-")
	wantBehind(t, list, []string{"farm 4", "tick", "calm", "done"}, "ok", "0 3", "4 0", "a: 1:circle;b: 1:circle;c: ok;d: 1:circle;")
}

func TestImportsThatAreMissingOnTheDesk(t *testing.T) {
	wantEach(t, sourcesOf("a", "import q\nimport r\nlet x = q.v\n", "b", "import a\nlet y = a.x\n"),
		"report", "a: 1:import 1:import;b: ok;", "check a", "a: 1:import 1:import;", "summary a", "module a bad;", "summary b", "module b;y: any;", "run a", "x=stuck", "run b", "-", "order", "a b")
}
