package tests

import (
	"math"
	"slices"
	"strconv"
	"strings"
	"testing"

	"loop.example/g00276/impl"
)

var allCodes = []string{"dup", "many", "type", "loop", "name", "field", "if", "plus", "args", "fit", "call", "circle", "syntax", "import"}

// sourcesOf has a module for each pair of a name and a text.
func sourcesOf(pairs ...string) []impl.Source {
	var list []impl.Source
	for i := 0; i+1 < len(pairs); i += 2 {
		list = append(list, impl.Source{Name: pairs[i], Text: pairs[i+1]})
	}
	return list
}

// wantReport holds Report and CheckAll against a line for each module; the summaries of those that are not ok are Bad.
func wantReport(t *testing.T, list []impl.Source, want ...string) []impl.Result {
	t.Helper()
	if got := impl.Report(list); got != lines(want...)+"\n" {
		t.Errorf("Report =\n%swant\n%s\nof\n%s", got, lines(want...), setText(list))
	}
	all := impl.CheckAll(list)
	if len(all) != len(list) || len(all) != len(want) {
		t.Fatalf("%d results of %d modules", len(all), len(list))
	}
	for i, r := range all {
		if r.Name != list[i].Name || impl.ResultText(r) != want[i]+"\n" {
			t.Errorf("the result at %d is of %s: %q, want %q", i, r.Name, impl.ResultText(r), want[i])
		}
		if len(r.Diags) > 0 {
			wantBadSummary(t, r.Summary, list[i].Name)
		} else if r.Summary.Bad || r.Summary.Name != list[i].Name || !impl.SummaryOk(r.Summary) {
			t.Errorf("the summary of %s is %+v", list[i].Name, r.Summary)
		}
	}
	return all
}

// wantOne holds a result of CheckOne against its name, its faults and whether its summary is Bad.
func wantOne(t *testing.T, r impl.Result, name, wrong string, bad bool) {
	t.Helper()
	if r.Name != name || faultsText(r.Diags) != wrong {
		t.Errorf("CheckOne = %q of %q, want %q of %q", faultsText(r.Diags), r.Name, wrong, name)
	}
	if bad {
		wantBadSummary(t, r.Summary, name)
	} else if r.Summary.Bad || r.Summary.Name != name {
		t.Errorf("CheckOne of %q tells %+v", name, r.Summary)
	}
}

func sameResult(a, b impl.Result) bool {
	return a.Name == b.Name && slices.Equal(a.Diags, b.Diags) && sameSummary(a.Summary, b.Summary)
}

func sameResults(a, b []impl.Result) bool {
	return slices.EqualFunc(a, b, sameResult)
}

func wantNoResult(t *testing.T, what, s string) {
	t.Helper()
	if got, ok := impl.GetResult(s); ok || !sameResult(got, impl.Result{}) {
		t.Errorf("%s: GetResult(%.80q) = %+v, %t", what, s, got, ok)
	}
}

// wantResultBytes holds a result against its bytes, both ways.
func wantResultBytes(t *testing.T, r impl.Result, bytes string) {
	t.Helper()
	if got := impl.PutResult(r); got != bytes {
		t.Errorf("PutResult(%+v) = %.200q, want %.200q", r, got, bytes)
	}
	got, ok := impl.GetResult(bytes)
	if !ok || !sameResult(got, r) {
		t.Errorf("GetResult(%.200q) = %+v, %t", bytes, got, ok)
	}
}

func TestReportOfASetInWhichAllIsOk(t *testing.T) {
	list := sourcesOf(
		"a", "import c\nimport b\nlet x: int = b.f(c.v).n\nfn g(p: c.P): b.Q = b.f(p)",
		"b", "import c\ntype Q = {n: int, p: c.P}\nfn f(p: c.P): Q = {n = p.x + p.y, p = p}",
		"c", "type P = {x: int, y: int}\ntype Hidden = P\nlet v: P = {x = 1, y = 2}",
		"d", "",
		"e", "# nothing\n",
	)
	all := wantReport(t, list, "a: ok", "b: ok", "c: ok", "d: ok", "e: ok")
	c := library(t, "c", list[2].Text)
	b := library(t, "b", list[1].Text, c)
	a := library(t, "a", list[0].Text, b, c)
	for i, want := range []impl.Summary{a, b, c, {Name: "d"}, {Name: "e"}} {
		if !sameSummary(all[i].Summary, want) {
			t.Errorf("the summary at %d is\n%s", i, impl.SummaryText(all[i].Summary))
		}
	}
	wantSummary(t, all[0].Summary, lines("b.Q: {n: int, p: c.P}", "c.P: {x: int, y: int}"), lines("g: (c.P) -> b.Q", "x: int"))
	wantReport(t, sourcesOf("m", "let v = 1"), "m: ok")
	// the order of the report is that of the set, not that in which they are checked
	wantReport(t, rowOf(impl.MaxModules, ""), func() []string {
		var want []string
		for i := range impl.MaxModules {
			want = append(want, "n"+strconv.Itoa(10+i)+": ok")
		}
		return want
	}()...)
	chainBack := sourcesOf("a", "import b let x = b.x + 1", "b", "import c let x = c.x + 1", "c", "import d let x = d.x + 1", "d", "let x = 1")
	wantReport(t, chainBack, "a: ok", "b: ok", "c: ok", "d: ok")
	chainBack[3].Text = "let x = true"
	wantReport(t, chainBack, "a: ok", "b: ok", "c: 1:plus", "d: ok")
	chainBack[2].Text = "import d\nlet x = {y = d.x}"
	wantReport(t, chainBack, "a: ok", "b: 1:plus", "c: ok", "d: ok")
}

func TestReportOfFaultsInSeveralModules(t *testing.T) {
	wantReport(t, sourcesOf(
		"a", "import g\nlet x: int = \"t\"\nlet x = nope\nfn f(p: int): text = p + \"u\"",
		"b", "type T = T\ntype U = Lost\nlet v = 1",
		"c", "let v = 1\n\nlet w = v.field\nlet y = v(1)\nlet z = if v then 1 else 2",
		"d", "import g\nlet v = g.f(1, 2) + 1\nlet w = g.f(\"t\")\nlet y = g.nope",
		"e", "type T = int\ntype T = text\nlet v: T = 1",
		"f", "let v = 1 +\n\n)",
		"g", "fn f(p: int): int = p",
		"h", "import h",
		"i", "import lost",
	),
		"a: 2:fit 3:dup 3:name 4:plus",
		"b: 1:loop 2:type",
		"c: 3:field 4:call 5:if",
		"d: 2:args 3:fit 4:name",
		"e: 2:dup",
		"f: 3:syntax",
		"g: ok",
		"h: 1:circle",
		"i: 1:import",
	)
	many := ""
	for i := range impl.MaxDefs + 1 {
		many += "let a" + strconv.Itoa(i) + " = 1\n"
	}
	wantReport(t, sourcesOf("a", many, "b", "import a\nlet v = a.a0 + true"), "a: 1:many", "b: 2:plus")
	wantReport(t, sourcesOf("a", strings.ReplaceAll(strings.ReplaceAll(many, "let a", "type T"), "1\n", "int\n")), "a: 1:many")
	// what one tells does not come to another one
	wantReport(t, sourcesOf("a", "let x = 1 + true", "b", "let x = 1", "c", "let y = x"), "a: 1:plus", "b: ok", "c: 1:name")
}

func TestModulesThatImportWrongOnes(t *testing.T) {
	// of a wrong one nothing is known: whatever is asked of it is any
	list := sourcesOf(
		"a", "import w\nlet x = w.v + 1\nlet y = w.nope.more(2)\nlet z: w.T = w.v\nlet q = z + \"t\"",
		"b", "import a\nlet v = a.x + 1\nlet u = a.y\nlet r = a.nope",
		"c", "import w\nlet v: w.T = w.v\nlet u = v + true",
		"w", "type T = int\nlet v: T = \"t\"",
	)
	all := wantReport(t, list, "a: ok", "b: 4:name", "c: 3:plus", "w: 2:fit")
	wantSummary(t, all[0].Summary, "", lines("q: any", "x: any", "y: any", "z: any"))
	list[3].Text = "type T = int\nlet v: T = 1"
	wantReport(t, list, "a: 3:name 5:plus", "b: ok", "c: 3:plus", "w: ok")
	// what imports what imports a wrong one is checked by what that one tells
	wantReport(t, sourcesOf("a", "let x = nope", "b", "import a\nlet x = a.x\nlet y = 1", "c", "import b\nlet x = b.x + b.y\nlet y = b.y + \"t\"", "d", "import c\nlet z = c.x"),
		"a: 1:name", "b: ok", "c: 3:plus", "d: ok")
	// wrong by syntax, by a circle, by what is missing
	for _, text := range []string{"let", "import w", "import lost", "let v = 1 + true", strings.Repeat(" ", impl.MaxSource+1)} {
		all := impl.CheckAll(sourcesOf("a", "import b\nlet v = b.v.x(1) + 2", "b", "import w\nlet v = w.v.y\nlet u: w.U = w.u", "w", text))
		if impl.ResultText(all[0]) != "a: ok\n" || impl.ResultText(all[1]) != "b: ok\n" || impl.ResultText(all[2]) == "w: ok\n" {
			t.Errorf("by %.20q: %q", text, []string{impl.ResultText(all[0]), impl.ResultText(all[1])})
		}
		wantBadSummary(t, all[2].Summary, "w")
		wantSummary(t, all[1].Summary, "", lines("u: any", "v: any"))
	}
}

func TestImportsThatAreMissingAndBad(t *testing.T) {
	list := sourcesOf(
		"a", "import bad\nimport lost\nimport right\nimport none\nlet x = bad.y + lost.z\nlet u: bad.T = lost.q\nlet v: lost.T = right.v\nlet w = right.v + true\nlet y = right.nope\nlet z: right.T = 1",
		"b", "import a\nlet x = a.x + a.nope",
		"bad", "let",
		"right", "let v = 1",
	)
	wantReport(t, list, "a: 1:import 1:import 10:type 8:plus 9:name", "b: ok", "bad: 1:syntax", "right: ok")
	// what is missing alone makes it Bad
	list[0].Text = "import lost\nimport right\nlet v = right.v"
	wantReport(t, list, "a: 1:import", "b: ok", "bad: 1:syntax", "right: ok")
	// what is Bad alone does not
	list[0].Text = "import bad\nimport right\nlet x = right.v\nlet nope = 1"
	wantReport(t, list, "a: ok", "b: ok", "bad: 1:syntax", "right: ok")
	list[0].Text = "import bad\nlet x = bad.v\nlet y = true"
	wantReport(t, list, "a: ok", "b: 2:name", "bad: 1:syntax", "right: ok")
	// as often as there are some, ahead of all else
	list[0].Text = "import n3\nimport n1\nimport bad\nimport n2\nlet x = 1 + true"
	wantReport(t, list, "a: 1:import 1:import 1:import 5:plus", "b: ok", "bad: 1:syntax", "right: ok")
	// a module that imports what is missing is Bad to those above it, as is one that imports that with a fault
	wantReport(t, sourcesOf("a", "import b\nlet x = b.nope", "b", "import c\nimport lost\nlet x = c.v", "c", "let v = 1"), "a: ok", "b: 1:import", "c: ok")
	// not parsed, or of a circle: what is missing is not told
	wantReport(t, sourcesOf("a", "import lost\nlet"), "a: 2:syntax")
	wantReport(t, sourcesOf("a", "import lost\nimport a"), "a: 1:circle")
	wantReport(t, sourcesOf("a", "import b import lost", "b", "import a import none let x = nope"), "a: 1:circle", "b: 1:circle")
	// with all imports that a module may have
	src, _ := manyImports(impl.MaxImports)
	wantReport(t, sourcesOf("a", src+"\nlet x = 1 + true"), "a:"+strings.Repeat(" 1:import", impl.MaxImports)+" "+strconv.Itoa(1+strings.Count(src+"\n", "\n"))+":plus")
	// many stands behind what is missing
	many := "import lost\n"
	for i := range impl.MaxDefs + 1 {
		many += "type T" + strconv.Itoa(i) + " = int\n"
	}
	wantReport(t, sourcesOf("a", many), "a: 1:import 1:many")
}

func TestReportOfCircles(t *testing.T) {
	wantReport(t, sourcesOf("a", "import a"), "a: 1:circle")
	wantReport(t, sourcesOf("a", "import b\nlet v = nope", "b", "import a"), "a: 1:circle", "b: 1:circle")
	// what imports one of a circle, or is imported by one, is of none
	wantReport(t, sourcesOf("a", "let v = 1", "b", "import a import c let v = nope", "c", "import b", "d", "import c\nlet v = c.v + 1", "e", "import d\nlet v = d.v + true", "f", "import b import a\nlet v = b.v + a.v\nlet w = a.w"),
		"a: ok", "b: 1:circle", "c: 1:circle", "d: ok", "e: 2:plus", "f: 3:name")
	// one that would be of a circle, but is not parsed
	wantReport(t, sourcesOf("a", "import b", "b", "import a\nlet"), "a: ok", "b: 2:syntax")
	// names against the order in which they are checked
	wantReport(t, sourcesOf("a", "import z let v = z.v", "m", "import m", "z", "import m let v = m.v"), "a: ok", "m: 1:circle", "z: ok")
}

func TestReportOfWhatIsNotParsed(t *testing.T) {
	for _, text := range unparsed() {
		_, line := impl.ParseModule(text)
		if line == 0 {
			t.Fatalf("it is parsed: %q", text)
		}
		list := sourcesOf("a", text, "b", "let v = 1", "c", "import a import b let v = a.v + b.v let w = a.x.y")
		wantReport(t, list, "a: "+strconv.Itoa(line)+":syntax", "b: ok", "c: ok")
	}
	for text, line := range map[string]int{"let": 1, "\n\nlet\n\n": 3, "let x = 1\n!": 2, "let x\n=\n\n1 let y\n= )": 5, strings.Repeat("\n", 2999) + "!": 3000, strings.Repeat("\n", 3001): 1} {
		wantReport(t, sourcesOf("a", text), "a: "+strconv.Itoa(line)+":syntax")
	}
}

func TestReportOfNoModules(t *testing.T) {
	for _, list := range [][]impl.Source{nil, {}} {
		if impl.Report(list) != "" || len(impl.CheckAll(list)) != 0 || len(impl.Unit0(list)) != 0 {
			t.Error("something is told of no modules")
		}
	}
}

func wrongSets() map[string][]impl.Source {
	return map[string][]impl.Source{
		"out of order":              sourcesOf("b", "let v = 1", "a", "let v = 1"),
		"one name twice":            sourcesOf("a", "", "a", ""),
		"a word for a name":         sourcesOf("a", "", "let", ""),
		"no name":                   sourcesOf("", "let v = 1"),
		"a name with a dot":         sourcesOf("a.b", ""),
		"a name of 13 bytes":        sourcesOf("abcdefghijklm", ""),
		"a text that is too long":   sourcesOf("a", "let v = 1", "b", strings.Repeat("#", greatestText+1)),
		"more than MaxModules":      rowOf(impl.MaxModules+1, ""),
		"very many":                 make([]impl.Source, 1000000),
		"a circle that is no set":   sourcesOf("b", "import a", "a", "import b"),
		"missing ones in no set":    sourcesOf("b", "import lost", "a", "import none"),
		"one that is wrong, too":    sourcesOf("b", "let v = nope", "a", "let"),
		"a great letter behind one": sourcesOf("a", "", "B", ""),
	}
}

func TestReportOfWhatIsNoSet(t *testing.T) {
	for what, list := range wrongSets() {
		if impl.Report(list) != "" || len(impl.CheckAll(list)) != 0 || len(impl.Unit0(list)) != 0 {
			t.Errorf("%s: Report %q, %d results, %d units", what, impl.Report(list), len(impl.CheckAll(list)), len(impl.Unit0(list)))
		}
	}
	whole := strings.Repeat("#", greatestText)
	wantReport(t, sourcesOf("a", whole, "b", "import a let v = a.v"), "a: 1:syntax", "b: ok")
}

func TestCheckOne(t *testing.T) {
	lib := library(t, "m", "type T = {a: int}\nlet v: T = {a = 1}")
	one := func(text string, circle bool, missing string, imports ...impl.Summary) impl.Result {
		return impl.CheckOne("x", text, circle, strings.Fields(missing), imports)
	}
	r := one("import m\nlet w = m.v.a\nlet u = m.v", false, "", lib)
	wantOne(t, r, "x", "", false)
	wantSummary(t, r.Summary, "m.T: {a: int}", lines("u: m.T", "w: int"))
	wantOne(t, one("import m\nlet w = m.v + 1", false, "", lib), "x", "2:plus", true)
	wantOne(t, one("", false, ""), "x", "", false)
	// the reason that is named first counts
	wantOne(t, one("let v = 1", true, ""), "x", "1:circle", true)
	wantOne(t, one("\nlet", true, ""), "x", "1:circle", true)
	wantOne(t, one("import z let v = nope", true, "z y", lib), "x", "1:circle", true)
	wantOne(t, one("\nlet", false, ""), "x", "2:syntax", true)
	wantOne(t, one("import z\nlet\n\n\n", false, "z", lib), "x", "2:syntax", true)
	wantOne(t, one(strings.Repeat(" ", impl.MaxSource+1), false, "z"), "x", "1:syntax", true)
	wantOne(t, one(strings.Repeat(" ", impl.MaxSource), false, ""), "x", "", false)
	wantOne(t, one("import z\nlet v = z.a + true", false, "z"), "x", "1:import 2:plus", true)
	wantOne(t, one("import z\nlet v = 1", false, "z"), "x", "1:import", true)
	// each that is missing, whether the module imports it or not
	wantOne(t, one("let v = 1", false, "z"), "x", "1:import", true)
	wantOne(t, one("import z\nlet v = z.v", false, "z z y"), "x", "1:import 1:import 1:import", true)
	wantOne(t, impl.CheckOne("x", "let v = nope", false, []string{"", "let", "\xff"}, nil), "x", "1:import 1:import 1:import 1:name", true)
	// an import that is neither there nor missing is as one that is Bad
	wantOne(t, one("import z\nlet v: z.T = z.v + 1", false, ""), "x", "", false)
	wantOne(t, one("import z\nlet v: z.T = z.v + 1", false, "", dark("z")), "x", "", false)
	// what is missing stands behind the imports: the first of one name counts
	wantOne(t, one("import m\nlet w = m.v + 1", false, "m", lib), "x", "1:import 2:plus", true)
	wantOne(t, one("import m\nlet w = m.v + 1", false, "m"), "x", "1:import", true)
	wantOne(t, one("import m\nlet w = m.v + 1", false, "m", dark("m"), lib), "x", "1:import", true)
	wantOne(t, one("import m\nlet w = m.v + 1", false, "", lib, dark("m")), "x", "2:plus", true)
	// many alone, but behind what is missing
	many := strings.Repeat("let q = 1\n", impl.MaxDefs+1)
	for _, name := range []string{"", "let", "a.b", "abcdefghijklm", "a b", "\xff"} {
		wantOne(t, impl.CheckOne(name, "let v = nope", false, nil, nil), name, "1:many", true)
		wantOne(t, impl.CheckOne(name, "let v = nope", false, []string{"z"}, nil), name, "1:import 1:many", true)
		wantOne(t, impl.CheckOne(name, "let", false, nil, nil), name, "1:syntax", true)
		wantOne(t, impl.CheckOne(name, "let v = 1", true, nil, nil), name, "1:circle", true)
	}
	if r := one(many, false, ""); len(r.Diags) != impl.MaxDefs || !r.Summary.Bad {
		t.Error("many lets of one name:", faultsText(r.Diags))
	}
	// by summaries that are none
	wantOne(t, one("import m\nlet w: m.T = m.v", false, "", impl.Summary{Name: "m", Types: envFrom(t, "m.T = int"), Exports: envFrom(t, "v = text")}), "x", "2:fit", true)
	wantOne(t, one("import x\nlet w = x.v", false, "x"), "x", "1:import", true)
}

func TestResultText(t *testing.T) {
	for want, r := range map[string]impl.Result{
		"m: ok\n":                            {Name: "m"},
		"n: ok\n":                            {Name: "n", Diags: []impl.Diag{}, Summary: dark("other")},
		"m: 2:plus\n":                        {Name: "m", Diags: []impl.Diag{{Line: 2, Code: "plus"}}},
		"m: 1:import 1:import 12:fit\n":      {Name: "m", Diags: []impl.Diag{{Line: 1, Code: "import"}, {Line: 1, Code: "import"}, {Line: 12, Code: "fit"}}},
		": ok\n":                             {},
		": 0:\n":                             {Diags: make([]impl.Diag, 1)},
		"a: b\n: -7:what 1000000:dup 0:ok\n": {Name: "a: b\n", Diags: []impl.Diag{{Line: -7, Code: "what"}, {Line: 1000000, Code: "dup"}, {Code: "ok"}}},
		"\xff: 1:\x00\n\n":                   {Name: "\xff", Diags: []impl.Diag{{Line: 1, Code: "\x00\n"}}},
		"m: -9223372036854775808:a 9223372036854775807:b\n": {Name: "m", Diags: []impl.Diag{{Line: math.MinInt, Code: "a"}, {Line: math.MaxInt, Code: "b"}}},
	} {
		if got := impl.ResultText(r); got != want {
			t.Errorf("ResultText = %q, want %q", got, want)
		}
	}
}

func TestResultsAndTheirBytes(t *testing.T) {
	wantResultBytes(t, impl.Result{Name: "a", Summary: impl.Summary{Name: "a"}}, "\x03\x01a\x06a: ok\n\x05\x01a\x00\x00\x00")
	wantResultBytes(t, impl.Result{Name: "a", Summary: dark("a")}, "\x03\x01a\x06a: ok\n\x05\x01a\x01\x00\x00")
	wantResultBytes(t, impl.Result{Name: "b", Diags: []impl.Diag{{Line: 2, Code: "plus"}}, Summary: dark("b")}, "\x03\x01b\x0ab: 2:plus\n\x05\x01b\x01\x00\x00")
	// a summary that is not Bad beside faults is a result, too
	wantResultBytes(t, impl.Result{Name: "b", Diags: []impl.Diag{{Line: 2, Code: "if"}, {Line: 1, Code: "if"}, {Line: 2, Code: "if"}}, Summary: impl.Summary{Name: "b", Exports: envFrom(t, "v = int")}},
		"\x03\x01b\x12b: 2:if 1:if 2:if\n\x08\x01b\x00\x00\x01\x01v\x00")
	for _, s := range rightSummaries(t) {
		r := impl.Result{Name: s.Name, Summary: s}
		for _, line := range []int{1, 2, 9, 10, 99, 100, 3000, 99999, 100000, 999998, 999999} {
			for _, code := range allCodes {
				r.Diags = append(r.Diags, impl.Diag{Line: line, Code: code})
				if len(r.Diags)%20 == 1 {
					wantResultBytes(t, r, impl.PutTexts([]string{s.Name, impl.ResultText(r), impl.PutSummary(s)}))
				}
			}
		}
		wantResultBytes(t, r, impl.PutTexts([]string{s.Name, impl.ResultText(r), impl.PutSummary(s)}))
	}
	for _, code := range allCodes {
		wantResultBytes(t, impl.Result{Name: "m", Diags: []impl.Diag{{Line: 999999, Code: code}}, Summary: dark("m")},
			impl.PutTexts([]string{"m", "m: 999999:" + code + "\n", impl.PutSummary(dark("m"))}))
	}
	list := sourcesOf("a", "import c\nimport lost\nlet x = c.v + true", "b", "let", "c", "type T = {n: T | int}\nlet v: T = {n = 1}\nfn f(x: T): T = x", "d", "import d")
	for _, r := range impl.CheckAll(list) {
		wantResultBytes(t, r, impl.PutTexts([]string{r.Name, impl.ResultText(r), impl.PutSummary(r.Summary)}))
	}
}

// What is put, but names a line or a code that there is none of, does not come back.
func TestDiagsThatDoNotComeBack(t *testing.T) {
	for _, d := range []impl.Diag{
		{Line: 0, Code: "plus"}, {Line: -1, Code: "plus"}, {Line: 1000000, Code: "plus"}, {Line: 1000001, Code: "dup"}, {Line: math.MaxInt, Code: "dup"}, {Line: math.MinInt, Code: "dup"},
		{Line: 1, Code: ""}, {Line: 1, Code: "what"}, {Line: 1, Code: "ok"}, {Line: 1, Code: "Plus"}, {Line: 1, Code: "plus "}, {Line: 1, Code: " plus"}, {Line: 1, Code: "plu"}, {Line: 1, Code: "pluss"},
		{Line: 1, Code: "plus\n"}, {Line: 1, Code: "plus:"}, {Line: 1, Code: ":plus"}, {Line: 1, Code: "1:plus"}, {Line: 1, Code: "plus 2"}, {Line: 1, Code: "plus ok"}, {Line: 1, Code: "\x00"},
	} {
		for _, around := range [][2][]impl.Diag{{}, {{{Line: 1, Code: "fit"}}, nil}, {nil, {{Line: 1, Code: "fit"}}}, {{{Line: 9, Code: "if"}}, {{Line: 9, Code: "if"}}}} {
			r := impl.Result{Name: "m", Diags: slices.Concat(around[0], []impl.Diag{d}, around[1]), Summary: dark("m")}
			bytes := impl.PutResult(r)
			if bytes != impl.PutTexts([]string{"m", impl.ResultText(r), impl.PutSummary(dark("m"))}) {
				t.Errorf("PutResult of %+v = %q", r, bytes)
			}
			wantNoResult(t, "a diag that is none", bytes)
		}
	}
	// one code that reads as two diags is told as these
	r := impl.Result{Name: "m", Diags: []impl.Diag{{Line: 1, Code: "dup 2:fit"}}, Summary: dark("m")}
	got, ok := impl.GetResult(impl.PutResult(r))
	if !ok || faultsText(got.Diags) != "1:dup 2:fit" || len(got.Diags) != 2 {
		t.Error(got, ok)
	}
}

func TestBytesOfNoResult(t *testing.T) {
	lib := library(t, "m", "type T = {n: T | bool}\nlet v = 1\nfn f(x: T): int = 2")
	bytes := impl.PutSummary(lib)
	whole := impl.PutTexts([]string{"m", "m: 2:plus 13:fit\n", bytes})
	if _, ok := impl.GetResult(whole); !ok {
		t.Fatal("the test's result is none")
	}
	for cut := range len(whole) {
		wantNoResult(t, "cut off", whole[:cut])
		wantNoResult(t, "cut off ahead", whole[cut+1:])
		wantNoResult(t, "one byte less", whole[:cut]+whole[cut+1:])
	}
	for b := range 256 {
		wantNoResult(t, "with a byte behind", whole+string([]byte{byte(b)}))
		wantNoResult(t, "with a byte ahead", string([]byte{byte(b)})+whole)
	}
	for _, text := range []string{
		"", "\n", "m", "m:", "m:\n", "m: \n", "m: ok", "m:ok\n", "m:  ok\n", "m: ok \n", "m: ok\n\n", "m: okay\n", "m: OK\n", "m: o\n", " m: ok\n", "m : ok\n", "M: ok\n", "n: ok\n", "mm: ok\n", ": ok\n",
		"m: ok ok\n", "m: ok 2:plus\n", "m: 2:plus ok\n", "m: 2:plus", "m: 2:plus\n\n", "m: 2:plus \n", "m:  2:plus\n", "m:2:plus\n", "m: 2:plus  3:fit\n", "m: 2:plus3:fit\n", "m: 2:plus,3:fit\n", "m: 2:plus\t3:fit\n", "m: 2:plus\n3:fit\n", "n: 2:plus\n", "m 2:plus\n",
		"m: 02:plus\n", "m: 002:plus\n", "m: +2:plus\n", "m: -2:plus\n", "m: 0:plus\n", "m: 00:plus\n", "m: 1000000:plus\n", "m: 0999999:plus\n", "m: 9999990:plus\n", "m: 99999999999999999999:plus\n", "m: :plus\n", "m: plus\n", "m: 2\n", "m: 2:\n", "m: 2: plus\n", "m: 2 :plus\n", "m: 2::plus\n", "m: 2:3:plus\n", "m: x:plus\n", "m: 0x2:plus\n", "m: 1e3:plus\n", "m: 1_0:plus\n", "m: 2.0:plus\n", "m: \uff12:plus\n",
		"m: 2:what\n", "m: 2:Plus\n", "m: 2:ok\n", "m: 2:plu\n", "m: 2:pluss\n", "m: 2:word\n", "m: 2:stuck\n", "m: 2:missing\n", "m: 2:bad\n", "m: 2:plus\x00\n", "m: 2:plus\r\n",
	} {
		wantNoResult(t, strconv.Quote(text), impl.PutTexts([]string{"m", text, bytes}))
	}
	for what, texts := range map[string][]string{
		"no texts":                      {},
		"one text":                      {"m"},
		"two texts":                     {"m", "m: ok\n"},
		"four texts":                    {"m", "m: ok\n", bytes, ""},
		"another name":                  {"n", "m: ok\n", bytes},
		"another name in both":          {"n", "n: ok\n", bytes},
		"no name":                       {"", ": ok\n", bytes},
		"no summary":                    {"m", "m: ok\n", ""},
		"a summary with a byte behind":  {"m", "m: ok\n", bytes + "\x00"},
		"a summary that is cut off":     {"m", "m: ok\n", bytes[:len(bytes)-1]},
		"a summary of another name":     {"m", "m: ok\n", impl.PutSummary(dark("n"))},
		"a summary of a word":           {"let", "let: ok\n", "\x03let\x01\x00\x00"},
		"a summary of no name":          {"", ": ok\n", "\x00\x01\x00\x00"},
		"turned around":                 {"m: ok\n", "m", bytes},
		"turned around at the end":      {"m", bytes, "m: ok\n"},
		"a result within":               {"m", "m: ok\n", whole},
		"a text in the summary's place": {"m", "m: ok\n", "m: ok\n"},
	} {
		wantNoResult(t, what, impl.PutTexts(texts))
	}
	for _, s := range wrongSummaries(t) {
		wantNoResult(t, "of no summary", impl.PutTexts([]string{s.Name, s.Name + ": ok\n", rawSummary(s)}))
	}
	for _, s := range []string{"", "\x00", "\x03", "\x03\x01m", "\x83\x00" + whole[1:], "\x03\x81\x00" + whole[2:]} {
		wantNoResult(t, "no texts", s)
	}
}

func TestResultsWithoutBytes(t *testing.T) {
	for what, s := range wrongSummaries(t) {
		for _, diags := range [][]impl.Diag{nil, {{Line: 1, Code: "dup"}}} {
			if got := impl.PutResult(impl.Result{Name: s.Name, Diags: diags, Summary: s}); got != "" {
				t.Errorf("PutResult with %s = %q", what, got)
			}
		}
	}
	for i, s := range summariesOfWrongTypes(t) {
		if impl.PutResult(impl.Result{Name: s.Name, Summary: s}) != "" {
			t.Error("PutResult with a type that is none", i)
		}
	}
	for _, s := range rightSummaries(t) {
		for _, name := range []string{"", "q", s.Name + "x", strings.ToUpper(s.Name), s.Name + " ", s.Name[1:]} {
			if got := impl.PutResult(impl.Result{Name: name, Summary: s}); got != "" {
				t.Errorf("PutResult of %q with the summary of %q = %q", name, s.Name, got)
			}
		}
	}
	if impl.PutResult(impl.Result{}) != "" {
		t.Error("PutResult of the zero value")
	}
}

// wideSummary has a PutSummary of so many bytes (some thousands, or more).
func wideSummary(t *testing.T, size int) impl.Summary {
	t.Helper()
	s := impl.Summary{Name: "x", Exports: []impl.Named{{Name: "f", Type: fnT(intT)}, {Name: "r"}}}
	record := impl.Type{Kind: impl.TyRecord}
	const each = len("\x0cn00000000000\x00")
	for i := range size/each - 4 {
		record.Names = append(record.Names, "n"+strconv.Itoa(10000000000+i))
		record.Kids = append(record.Kids, intT)
	}
	s.Exports[1].Type = record
	for range size - len(impl.PutSummary(s)) {
		s.Exports[0].Type.Kids = append(s.Exports[0].Type.Kids, intT)
	}
	if len(impl.PutSummary(s)) != size {
		t.Fatalf("%d bytes, not %d", len(impl.PutSummary(s)), size)
	}
	return s
}

func TestResultsAtMaxBytes(t *testing.T) {
	var s impl.Summary
	for _, size := range []int{5000, impl.MaxBytes} {
		s = wideSummary(t, size)
		r := impl.Result{Name: "x", Summary: s}
		bytes := impl.PutResult(r)
		if len(bytes) < size || bytes != impl.PutTexts([]string{"x", "x: ok\n", impl.PutSummary(s)}) {
			t.Errorf("PutResult of a summary of %d bytes has %d", size, len(bytes))
		}
		if got, ok := impl.GetResult(bytes); !ok || !sameResult(got, r) {
			t.Errorf("a summary of %d bytes does not come back", size)
		}
	}
	s.Exports[0].Type.Kids = append(s.Exports[0].Type.Kids, intT)
	if impl.PutResult(impl.Result{Name: "x", Summary: s}) != "" {
		t.Error("PutResult of a summary of more than MaxBytes")
	}
	// texts: five bytes each, and two times one more
	r := impl.Result{Name: "x", Diags: slices.Repeat([]impl.Diag{{Line: 1, Code: "if"}}, (impl.MaxBytes-15)/5), Summary: dark("x")}
	r.Diags = append(r.Diags, impl.Diag{Line: 10, Code: "if"}, impl.Diag{Line: 99, Code: "if"})
	if size := len(impl.ResultText(r)); size != impl.MaxBytes {
		t.Fatal("the test's text has", size)
	}
	bytes := impl.PutResult(r)
	if got, ok := impl.GetResult(bytes); !ok || !sameResult(got, r) {
		t.Error("a text of MaxBytes does not come back")
	}
	r.Diags[0].Line = 10
	if impl.PutResult(r) != "" || len(impl.ResultText(r)) != impl.MaxBytes+1 {
		t.Error("a text of more than MaxBytes")
	}
}

func TestUnit0(t *testing.T) {
	list := sourcesOf(
		"a", "import c\nimport lost\nlet x = c.v + 1",
		"b", "let",
		"c", "import d\nlet v = d.v\nlet w = nope",
		"d", "let v = 20",
		"e", "",
	)
	wantUnits := func(list []impl.Source, names string) {
		t.Helper()
		units := impl.Unit0(list)
		var told []string
		for _, u := range units {
			told = append(told, u.Name)
			at := slices.IndexFunc(list, func(s impl.Source) bool { return s.Name == u.Name })
			if at < 0 || !alikeModules(u.Module, mustParse(t, list[at].Text)) || !impl.SameModule(u.Module, mustParse(t, list[at].Text)) {
				t.Errorf("the unit %s is another one: %+v", u.Name, u.Module)
			}
		}
		if listText(told) != names {
			t.Errorf("the units are %q, want %q, of\n%s", told, names, setText(list))
		}
	}
	wantUnits(list, "d e c a")
	wantUnits(list[:1], "a")
	wantUnits(list[1:2], "")
	wantUnits(list[2:4], "d c")
	wantUnits(sourcesOf("a", "import z let v = 1", "b", "import a", "z", "let v = 2"), "z a b")
	var names []string
	row := rowOf(impl.MaxModules, "")
	for _, s := range row {
		names = append(names, s.Name)
	}
	wantUnits(row, listText(names))
	// what is not parsed leaves the others as they are, also where it would be of a circle
	wantUnits(sourcesOf("a", "import b", "b", "import a let", "c", "import a import b"), "a c")
	for _, text := range unparsed() {
		wantUnits(sourcesOf("a", text, "b", "let v = 1", "c", "import a import b"), "b c")
	}
	// of Circles there are some
	wantUnits(sourcesOf("a", "import a"), "")
	wantUnits(sourcesOf("a", "let v = 1", "b", "import c", "c", "import b", "d", "import a"), "")
	wantUnits(append(list, impl.Source{Name: "f", Text: "import f"}), "")
	// what is run of them
	if got := doneText(impl.Run(impl.Unit0(sourcesOf("a", "import c let x = c.v + 1", "b", "import a let y = {p = a.x}", "c", "let v = 20")), 100)); got != lines("c.v 20", "a.x 21", "b.y {p = 21}") {
		t.Error(got)
	}
	for range 50 {
		wantUnits(row, listText(names))
	}
}
