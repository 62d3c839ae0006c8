package tests

import (
	"reflect"
	"regexp"
	"slices"
	"strconv"
	"strings"
	"testing"

	"loop.example/g00276/impl"
)

// From here on the document's chapter is told once more, sentence by sentence.

func checkOneByWords(name, text string, circle bool, missing []string, imports []impl.Summary) impl.Result {
	r := impl.Result{Name: name, Summary: dark(name)}
	m, line := impl.ParseModule(text)
	switch {
	case circle:
		r.Diags = []impl.Diag{{Line: 1, Code: "circle"}}
	case line > 0:
		r.Diags = []impl.Diag{{Line: line, Code: "syntax"}}
	default:
		all := slices.Clone(imports)
		for _, of := range missing {
			all = append(all, dark(of))
			r.Diags = append(r.Diags, impl.Diag{Line: 1, Code: "import"})
		}
		wrong, s := checkByWords(name, m, all)
		r.Diags = append(r.Diags, wrong...)
		if len(missing) == 0 {
			r.Summary = s
		}
	}
	return r
}

func checkAllByWords(list []impl.Source) []impl.Result {
	if !setByWords(list) {
		return nil
	}
	g := graphByWords(list)
	circles := g.circles()
	done := map[string]impl.Result{}
	var resultOf func(s impl.Source) impl.Result
	resultOf = func(s impl.Source) impl.Result {
		if r, ok := done[s.Name]; ok {
			return r
		}
		isOfCircle := slices.Contains(circles, s.Name)
		within, missing := importsByWords(list, s.Name)
		var imports []impl.Summary
		for _, of := range list {
			if !isOfCircle && slices.Contains(within, of.Name) {
				imports = append(imports, resultOf(of).Summary)
			}
		}
		done[s.Name] = checkOneByWords(s.Name, s.Text, isOfCircle, missing, imports)
		return done[s.Name]
	}
	var all []impl.Result
	for _, s := range list {
		all = append(all, resultOf(s))
	}
	return all
}

func resultTextByWords(r impl.Result) string {
	text := r.Name + ":"
	for _, d := range r.Diags {
		text += " " + strconv.Itoa(d.Line) + ":" + d.Code
	}
	if len(r.Diags) == 0 {
		text += " ok"
	}
	return text + "\n"
}

func putResultByWords(r impl.Result) string {
	if !summaryOkByWords(r.Summary) || r.Name != r.Summary.Name {
		return ""
	}
	return "\x03" + textByWordsOfBytes(r.Name) + textByWordsOfBytes(resultTextByWords(r)) + textByWordsOfBytes(rawSummary(r.Summary))
}

var resultForm = regexp.MustCompile(`(?s)\A([A-Za-z0-9]+):( ok|(?: [1-9][0-9]{0,5}:(?:dup|many|type|loop|name|field|if|plus|args|fit|call|circle|syntax|import))+)\n\z`)

func getResultByWords(s string) (impl.Result, bool) {
	texts, ok := impl.GetTexts(s)
	if !ok || len(texts) != 3 {
		return impl.Result{}, false
	}
	found := resultForm.FindStringSubmatch(texts[1])
	summary, ok := impl.GetSummary(texts[2])
	if !ok || found == nil || found[1] != texts[0] || summary.Name != texts[0] {
		return impl.Result{}, false
	}
	r := impl.Result{Name: texts[0], Summary: summary}
	for _, part := range strings.Fields(found[2]) {
		line, code, is := strings.Cut(part, ":")
		if is {
			number, _ := strconv.Atoi(line)
			r.Diags = append(r.Diags, impl.Diag{Line: number, Code: code})
		}
	}
	return r, true
}

func unitsByWords(list []impl.Source) []impl.Unit {
	g := graphByWords(list)
	if len(g.circles()) > 0 {
		return nil
	}
	var units []impl.Unit
	for _, name := range slices.Concat(g.levels()...) {
		for _, s := range list {
			if m, line := impl.ParseModule(s.Text); s.Name == name && line == 0 {
				units = append(units, impl.Unit{Name: name, Module: m})
			}
		}
	}
	return units
}

// reportAsByWords holds all that the chapter tells of a set against its words.
func reportAsByWords(t *testing.T, list []impl.Source) []impl.Result {
	t.Helper()
	got, want := impl.CheckAll(list), checkAllByWords(list)
	if !sameResults(got, want) {
		t.Fatalf("CheckAll =\n%+v\nwant\n%+v\nof\n%s", got, want, wholeSetText(list))
	}
	report := ""
	for _, r := range want {
		report += resultTextByWords(r)
		resultAsByWords(t, r)
	}
	if text := impl.Report(list); text != report {
		t.Fatalf("Report =\n%swant\n%sof\n%s", text, report, wholeSetText(list))
	}
	units := impl.Unit0(list)
	same := func(a, b impl.Unit) bool { return a.Name == b.Name && reflect.DeepEqual(a.Module, b.Module) }
	if wanted := unitsByWords(list); !slices.EqualFunc(units, wanted, same) {
		t.Fatalf("Unit0 = %+v\nwant %+v\nof\n%s", units, wanted, wholeSetText(list))
	}
	return got
}

// resultAsByWords holds a result that is right against its text and its bytes.
func resultAsByWords(t *testing.T, r impl.Result) {
	t.Helper()
	if text := impl.ResultText(r); text != resultTextByWords(r) {
		t.Fatalf("ResultText(%+v) = %q", r, text)
	}
	bytes := impl.PutResult(r)
	if bytes != putResultByWords(r) {
		t.Fatalf("PutResult(%+v) = %q", r, bytes)
	}
	if got, ok := impl.GetResult(bytes); !ok || !sameResult(got, r) {
		t.Fatalf("GetResult(%q) = %+v, %t", bytes, got, ok)
	}
}

func wholeSetText(list []impl.Source) string {
	text := ""
	for _, s := range list {
		text += "-- " + s.Name + "\n" + s.Text[:min(len(s.Text), 3100)] + "\n"
	}
	return text
}

// wantEachTold asks that Report tells each module of a set once, in the set's order.
func wantEachTold(t *testing.T, list []impl.Source, all []impl.Result) {
	t.Helper()
	told := strings.SplitAfter(impl.Report(list), "\n")
	if len(all) != len(list) || len(told) != len(list)+1 || told[len(list)] != "" {
		t.Fatalf("%d results and %d lines of\n%s", len(all), len(told)-1, wholeSetText(list))
	}
	for i, s := range list {
		if all[i].Name != s.Name || all[i].Summary.Name != s.Name || !strings.HasPrefix(told[i], s.Name+": ") || told[i] != impl.ResultText(all[i]) {
			t.Fatalf("at %d %q is told, of %s", i, told[i], s.Name)
		}
	}
}

// wantOthersTheSame is promise 10 where the text of one module is changed; it counts the others that stayed the same
// and those that did not, as they may that are above it.
func wantOthersTheSame(t *testing.T, list []impl.Source, before []impl.Result, at int, text string) (same, other int) {
	t.Helper()
	changed := slices.Clone(list)
	changed[at].Text = text
	after := impl.CheckAll(changed)
	wantEachTold(t, changed, after)
	above := impl.Above(list, list[at].Name)
	for i, s := range list {
		switch {
		case i == at:
		case slices.Contains(above, s.Name):
			if !sameResult(before[i], after[i]) {
				other++
			}
		case !sameResult(before[i], after[i]):
			t.Fatalf("%s is not above %s, and told otherwise where that one is %q:\n%+v\n%+v\nof\n%s", s.Name, list[at].Name, text, before[i], after[i], wholeSetText(list))
		default:
			same++
		}
	}
	return same, other
}

// A reportMaker makes sets of modules that import each other by what they are told of: right ones and wrong ones,
// some that import what is missing, or each other, and some that are not parsed.
type reportMaker struct {
	typeMaker
}

var reportEnds = []string{
	"type Loop = {a: int} | Loop\n", "let v1 = 1\nlet v1 = 2\n", "let zz: Lost = 1\n", "fn zz(x: int): int = zz(x, 2)\n", "type T1 = int\ntype T1 = text\n",
	"let\n", "let zz = (1\n", "\n\n!", "let zz = 1 + true\n", "let zz = {a = 1}.b\n", "let zz: text = 1\n", "let zz = 1(2)\n", "let zz = if 1 then 2 else 3\n",
}

func (m *reportMaker) set() []impl.Source {
	names := []string{"a", "b", "c", "d", "e", "f"}
	for i := range names {
		k := m.next(i + 1)
		names[i], names[k] = names[k], names[i]
	}
	names = names[:1+m.next(6)]
	var made []impl.Summary
	var list []impl.Source
	for _, name := range names {
		text := m.text(name, names, made)
		list = append(list, impl.Source{Name: name, Text: text})
		module, line := impl.ParseModule(text)
		s := dark(name)
		if line == 0 {
			_, s = impl.CheckModule(name, module, made)
		}
		made = append(made, s)
	}
	slices.SortFunc(list, func(a, b impl.Source) int { return strings.Compare(a.Name, b.Name) })
	return list
}

func (m *reportMaker) text(name string, names []string, made []impl.Summary) string {
	own := &runMaker{checkMaker: checkMaker{typeMaker: m.typeMaker, amiss: []int{0, 0, 0, 60, 15}[m.next(5)], mod: name}}
	own.at = m.at
	var others []string
	for _, s := range made {
		switch way := own.next(4); {
		case way > 1 && !s.Bad:
			own.libs = append(own.libs, s)
		case way > 1:
			others = append(others, s.Name)
		}
	}
	text := own.source()
	m.at = own.at
	if m.next(5) == 0 {
		others = append(others, []string{"n1", "n2", "n3"}[m.next(3)])
	}
	if m.next(12) == 0 {
		others = append(others, names[m.next(len(names))])
	}
	for i, of := range others {
		text = "import " + of + "\n" + text + "let y" + strconv.Itoa(i) + " = " + of + ".v1 + 1\nlet z" + strconv.Itoa(i) + ": " + of + ".T1 = " + of + ".v2\n"
	}
	if m.next(6) == 0 {
		text += reportEnds[m.next(len(reportEnds))]
	}
	return text
}

func madeReports(seeds uint64, do func(m *reportMaker, list []impl.Source)) {
	for seed := range seeds {
		m := &reportMaker{typeMaker{bytes: someBytes(seed+120120, 6000)}}
		list := m.set()
		do(m, list)
	}
}

func TestReportsThatAreMadeAsTheWordsTell(t *testing.T) {
	codes, right, many := map[string]int{}, 0, 0
	madeReports(500, func(m *reportMaker, list []impl.Source) {
		all := reportAsByWords(t, list)
		wantEachTold(t, list, all)
		for _, r := range all {
			for _, d := range r.Diags {
				codes[d.Code]++
			}
			if len(r.Diags) == 0 && len(impl.ImportsOf(list, r.Name)) > 0 {
				right++
			}
			if len(r.Diags) > 1 {
				many++
			}
		}
	})
	for _, code := range allCodes {
		if code != "many" && codes[code] < 10 {
			t.Error("few modules are wrong so:", code, codes[code])
		}
	}
	if right < 300 || many < 150 {
		t.Error("the test's sets are of one sort:", right, many, codes)
	}
}

func TestSetsOfAnySizeAreReportedAsTheWordsTell(t *testing.T) {
	for seed := range uint64(600) {
		m := &setMaker{typeMaker{bytes: someBytes(seed+818181, 500)}}
		list := m.set()
		wantEachTold(t, list, reportAsByWords(t, list))
	}
	for what, list := range wrongSets() {
		if len(checkAllByWords(list)) > 0 {
			t.Error("the test's list is a set:", what)
		}
		reportAsByWords(t, list)
	}
}

// valuedSet is as setOfBits, and each module has a value of its own and all those that it imports in one sum.
func valuedSet(names, missing []string, bits []int) []impl.Source {
	list := setOfBits(names, missing, bits)
	for i := range list {
		m, line := impl.ParseModule(list[i].Text)
		if line > 0 {
			continue
		}
		list[i].Text += "let v = " + []string{"1", "\"t\"", "2"}[i%3]
		for _, name := range m.Imports {
			list[i].Text += "\n + " + name + ".v"
		}
	}
	return list
}

func TestEachSetOfThreeModulesIsReportedAsTheWordsTell(t *testing.T) {
	reports := map[string]int{}
	same, other := 0, 0
	eachNumbers(3, 17, func(bits []int) {
		list := valuedSet([]string{"a", "b", "c"}, []string{"n"}, bits)
		all := reportAsByWords(t, list)
		wantEachTold(t, list, all)
		reports[impl.Report(list)]++
		for at := range list {
			for _, text := range []string{"let v = true", "import a\nimport b\nimport c\nlet v = a.v", "let"} {
				a, b := wantOthersTheSame(t, list, all, at, text)
				same, other = same+a, other+b
			}
		}
	})
	if len(reports) < 100 || same < 5000 || other < 5000 {
		t.Error("the test's sets are of one sort:", len(reports), same, other)
	}
}

func TestAModuleIsToldTheSameWhateverOthersAre(t *testing.T) {
	same, other := 0, 0
	madeReports(90, func(m *reportMaker, list []impl.Source) {
		before := impl.CheckAll(list)
		all := ""
		for _, s := range list {
			all += "import " + s.Name + "\n"
		}
		for at, s := range list {
			for _, text := range []string{
				"", "let", all, "import lost\nlet v1 = 1", "type T1 = Lost\nlet v1: T1 = nope", "type T1 = {q: text}\nlet v1: T1 = {q = \"t\"}\nlet v2 = true\nlet v3 = v1",
				list[m.next(len(list))].Text, strings.Repeat(" ", impl.MaxSource+1), strings.ReplaceAll(s.Text, "1", "true"), s.Text + "\nlet end = nope", "\n" + s.Text,
			} {
				a, b := wantOthersTheSame(t, list, before, at, text)
				same, other = same+a, other+b
			}
		}
	})
	if same < 3000 || other < 500 {
		t.Error("the test's sets are of one sort:", same, other)
	}
}

// A module is told by what it imports, whatever other modules the set has: it is the same in a set of less.
func TestAModuleIsToldTheSameWithoutOthers(t *testing.T) {
	count := 0
	madeReports(250, func(m *reportMaker, list []impl.Source) {
		all := impl.CheckAll(list)
		for at, gone := range list {
			above := impl.Above(list, gone.Name)
			less := slices.Delete(slices.Clone(list), at, at+1)
			for i, r := range impl.CheckAll(less) {
				if slices.Contains(above, r.Name) {
					continue
				}
				count++
				if was := slices.Delete(slices.Clone(all), at, at+1)[i]; !sameResult(was, r) {
					t.Fatalf("without %s %s is told otherwise:\n%+v\n%+v\nof\n%s", gone.Name, r.Name, was, r, wholeSetText(list))
				}
			}
		}
	})
	if count < 1000 {
		t.Error("the test's sets are of one sort:", count)
	}
}

// What CheckOne tells of each module by the results ahead of it is what CheckAll does.
func TestModulesOneByOneAreToldAsAll(t *testing.T) {
	madeReports(200, func(m *reportMaker, list []impl.Source) {
		all := impl.CheckAll(list)
		circles := impl.Circles(list)
		for i, s := range list {
			var imports []impl.Summary
			for k, of := range list {
				if slices.Contains(impl.ImportsOf(list, s.Name), of.Name) {
					imports = append(imports, all[k].Summary)
				}
			}
			r := impl.CheckOne(s.Name, s.Text, slices.Contains(circles, s.Name), impl.Missing(list, s.Name), imports)
			if !sameResult(r, all[i]) {
				t.Fatalf("alone %s is told otherwise:\n%+v\n%+v\nof\n%s", s.Name, r, all[i], wholeSetText(list))
			}
			slices.Reverse(imports)
			imports = append(append(imports, imports...), dark("lost"), impl.Summary{Name: "q", Exports: envFrom(t, "v = int")})
			if again := impl.CheckOne(s.Name, s.Text, slices.Contains(circles, s.Name), impl.Missing(list, s.Name), imports); !sameResult(r, again) {
				t.Fatalf("by summaries turned around, and more, %s is told otherwise:\n%+v\n%+v\nof\n%s", s.Name, r, again, wholeSetText(list))
			}
		}
	})
}

// madeOnes hands out what CheckOne may be given, right and wrong.
func madeOnes(t *testing.T, seeds uint64, do func(name, text string, circle bool, missing []string, imports []impl.Summary)) {
	t.Helper()
	for seed := range seeds {
		m := &handMaker{typeMaker{bytes: someBytes(seed+252525, 900)}}
		imports := m.summaries()
		text := impl.ShowModule(m.module())
		if m.next(3) > 0 {
			maker := &checkMaker{typeMaker: m.typeMaker, amiss: 20, mod: "main"}
			for _, s := range imports {
				if s.Name != "main" && impl.SummaryOk(s) {
					maker.libs = append(maker.libs, s)
				}
			}
			text = maker.source()
		}
		name := "main"
		if m.next(10) == 0 {
			name = m.name()
		}
		do(name, text, m.next(12) == 0, [][]string{nil, nil, {"d"}, {"m", "d"}, {"", "n", "n"}}[m.next(5)], imports)
	}
	madeModules(t, seeds, 10, func(m impl.Module, imports []impl.Summary, src string) {
		do("main", src, false, nil, imports)
		do("main", src, false, []string{"d"}, imports)
	})
}

func TestModulesByAnyImportsAsTheWordsTell(t *testing.T) {
	right, wrong, unparsed := 0, 0, 0
	madeOnes(t, 1500, func(name, text string, circle bool, missing []string, imports []impl.Summary) {
		got, want := impl.CheckOne(name, text, circle, missing, imports), checkOneByWords(name, text, circle, missing, imports)
		if !sameResult(got, want) {
			t.Fatalf("CheckOne of %q, %t, %q by %+v = %+v\nwant %+v\nof\n%s", name, circle, missing, imports, got, want, text)
		}
		switch {
		case len(got.Diags) == 0:
			right++
		case got.Diags[0].Code == "syntax":
			unparsed++
		default:
			wrong++
		}
	})
	if right < 300 || wrong < 500 || unparsed < 200 {
		t.Error("the test's modules are of one sort:", right, wrong, unparsed)
	}
}

// madeResults hands out results, right and wrong.
func madeResults(t *testing.T, seeds uint64, do func(m *typeMaker, r impl.Result)) {
	t.Helper()
	count := uint64(0)
	madeSummaries(t, seeds, func(s impl.Summary) {
		count++
		m := &typeMaker{bytes: someBytes(count+919191, 60)}
		r := impl.Result{Name: s.Name, Summary: s}
		if m.next(15) == 0 {
			r.Name = []string{"", "m", "main", "let"}[m.next(4)]
		}
		for range m.next(5) {
			d := impl.Diag{Line: []int{1, 2, 9, 10, 12, 345, 999999}[m.next(7)], Code: allCodes[m.next(len(allCodes))]}
			if m.next(25) == 0 {
				d.Line = []int{0, -1, 1000000, 12345678}[m.next(4)]
			}
			if m.next(25) == 0 {
				d.Code = []string{"", "ok", "what", "dup 1:fit", "if\n", "plus "}[m.next(6)]
			}
			r.Diags = append(r.Diags, d)
		}
		do(m, r)
	})
}

func TestResultsComeBackFromTheirBytes(t *testing.T) {
	back, none, without := 0, 0, 0
	madeResults(t, 500, func(m *typeMaker, r impl.Result) {
		bytes := impl.PutResult(r)
		if bytes != putResultByWords(r) || impl.ResultText(r) != resultTextByWords(r) {
			t.Fatalf("PutResult(%+v) = %q, ResultText %q", r, bytes, impl.ResultText(r))
		}
		got, ok := impl.GetResult(bytes)
		if want, wanted := getResultByWords(bytes); ok != wanted || !sameResult(got, want) {
			t.Fatalf("GetResult(%q) = %+v, %t", bytes, got, ok)
		}
		switch {
		case bytes == "":
			without++
		case !ok:
			none++
		default:
			back++
			if impl.PutResult(got) != bytes {
				t.Fatalf("PutResult(%+v) = %q, not %q", got, impl.PutResult(got), bytes)
			}
		}
	})
	if back < 1000 || none < 100 || without < 300 {
		t.Error("the test's results are of one sort:", back, none, without)
	}
}

// wantOnlyResultsBytes holds that what is taken has just those bytes; it tells whether it is.
func wantOnlyResultsBytes(t *testing.T, s string) bool {
	t.Helper()
	got, ok := impl.GetResult(s)
	want, wanted := getResultByWords(s)
	if ok != wanted || !sameResult(got, want) {
		t.Fatalf("GetResult(%q) = %+v, %t, want %+v, %t", s, got, ok, want, wanted)
	}
	if ok && (impl.PutResult(got) != s || putResultByWords(got) != s) {
		t.Fatalf("GetResult(%q) = %+v, whose bytes are %q", s, got, impl.PutResult(got))
	}
	return ok
}

func TestNoOtherBytesAreAResults(t *testing.T) {
	taken, none := 0, 0
	count := func(ok bool) {
		if ok {
			taken++
		} else {
			none++
		}
	}
	madeResults(t, 400, func(m *typeMaker, r impl.Result) {
		bytes := impl.PutResult(r)
		for i := range 6 {
			other := &typeMaker{bytes: someBytes(uint64(len(bytes)*31+i*7+taken), 200)}
			count(wantOnlyResultsBytes(t, changed(other, bytes)))
			// in the text alone, so that the bytes around it stay right
			text := changed(other, impl.ResultText(r))
			if other.next(2) == 0 {
				at := other.next(256) * len(text) / 256
				text = text[:at] + []string{" ", "1", "0", ":", "\n", "ok", "if", " 1:if", "9"}[other.next(9)] + text[at:]
			}
			count(wantOnlyResultsBytes(t, impl.PutTexts([]string{r.Name, text, impl.PutSummary(r.Summary)})))
		}
	})
	if taken < 200 || none < 20000 {
		t.Error("the test's bytes are of one sort:", taken, none)
	}
}

func TestShortTextsAreOneResultAtMost(t *testing.T) {
	words := []string{" ", ":", "1", "0", "999999", "if", "ok", "circle", "\n"}
	summary := impl.PutSummary(dark("m"))
	taken := 0
	for count := range 6 {
		eachNumbers(count, len(words), func(places []int) {
			text := "m:"
			for _, at := range places {
				text += words[at]
			}
			for _, end := range []string{"", "\n", ":if\n"} {
				if wantOnlyResultsBytes(t, impl.PutTexts([]string{"m", text + end, summary})) {
					taken++
				}
			}
		})
	}
	if taken < 20 {
		t.Error("few of the test's texts are results:", taken)
	}
}

func (m *memoryOf) addResults(list []impl.Result) {
	list = list[:cap(list)]
	for i := range list {
		m.places[&list[i]]++
		m.addResult(list[i])
	}
}

func (m *memoryOf) addResult(r impl.Result) {
	m.texts = append(m.texts, r.Name)
	m.addDiags(r.Diags)
	m.addSummary(r.Summary)
}

func (m *memoryOf) addUnits(list []impl.Unit) {
	list = list[:cap(list)]
	for i := range list {
		m.places[&list[i]]++
		m.texts = append(m.texts, list[i].Name)
		m.addModule(list[i].Module)
	}
}

func roomyResult(r impl.Result) impl.Result {
	out := impl.Result{Name: strings.Clone(r.Name), Summary: roomySummaries([]impl.Summary{r.Summary})[0]}
	for _, d := range r.Diags {
		out.Diags = append(out.Diags, impl.Diag{Line: d.Line, Code: strings.Clone(d.Code)})
	}
	out.Diags = append(out.Diags, impl.Diag{Line: 77, Code: "spare"})[:len(r.Diags)]
	return out
}

// wantNewReports calls each function of the chapter that takes a set with a list that has room behind it.
func wantNewReports(t *testing.T, of []impl.Source) {
	t.Helper()
	list, _, look := lookAtSet(t, of)
	look("CheckAll", func(a *memoryOf) { a.addResults(impl.CheckAll(list)) })
	look("Report", func(a *memoryOf) { a.texts = append(a.texts, impl.Report(list)) })
	look("Unit0", func(a *memoryOf) { a.addUnits(impl.Unit0(list)) })
}

func wantNewResult(t *testing.T, of impl.Result) {
	t.Helper()
	r := roomyResult(of)
	before := wholeModule(reflect.ValueOf(r)).Interface()
	given := newMemory()
	given.addResult(r)
	bytes := impl.PutResult(r)
	answer := newMemory()
	answer.texts = append(answer.texts, impl.ResultText(r), bytes)
	wantNewMemory(t, "ResultText or PutResult", answer, given)
	if !reflect.DeepEqual(wholeModule(reflect.ValueOf(r)).Interface(), before) {
		t.Fatalf("written into %+v", of)
	}
	got, _ := impl.GetResult(bytes)
	answer, given = newMemory(), newMemory()
	given.texts = append(given.texts, bytes)
	answer.addResult(got)
	wantNewMemory(t, "GetResult", answer, given)
}

func wantNewOne(t *testing.T, name, text string, circle bool, missing []string, imports []impl.Summary) {
	t.Helper()
	name, text, imports = strings.Clone(name), strings.Clone(text), roomySummaries(imports)
	missing = append(plainNames(missing), "spare")[:len(missing)]
	all := func() any { return wholeModule(reflect.ValueOf([]any{missing, imports})).Interface() }
	before := all()
	given := newMemory()
	given.texts = append(given.texts, name, text)
	given.addNames(missing)
	given.addSummaries(imports)
	answer := newMemory()
	answer.addResult(impl.CheckOne(name, text, circle, missing, imports))
	wantNewMemory(t, "CheckOne", answer, given)
	if !reflect.DeepEqual(all(), before) {
		t.Fatalf("CheckOne wrote into what it was given of %q\n%s", name, text)
	}
}

func TestNothingIsWrittenIntoWhatIsReportedAndAnswersAreNew(t *testing.T) {
	wantNewReports(t, nil)
	wantNewReports(t, setFrom("a d none b", "b c", "c", "d e", "e d c", "f d", "g b c"))
	wantNewReports(t, setFrom("b a", "a b"))
	wantNewReports(t, rowOf(impl.MaxModules+1, ""))
	// one type in the summaries of many modules
	wantNewReports(t, sourcesOf("a", "import b import c let v = b.v let w = {p = b.v, q = c.v, r = c.v}", "b", "import c let v = c.v fn f(x: c.T): c.T = x", "c", "type T = {n: T | U, f: (U, U) -> U} type U = {a: int} fn f(x: U, y: U): U = x let v: T = {n = {a = 1}, f = f}"))
	madeReports(60, func(m *reportMaker, list []impl.Source) {
		wantNewReports(t, list)
	})
	madeResults(t, 25, func(m *typeMaker, r impl.Result) {
		wantNewResult(t, r)
	})
	madeOnes(t, 100, func(name, text string, circle bool, missing []string, imports []impl.Summary) {
		wantNewOne(t, name, text, circle, missing, imports)
	})
	shared := recordT("x", nameT("m.T"))
	of := []impl.Summary{{Name: "m", Types: []impl.Named{{Name: "m.T", Type: fnT(shared, shared)}, {Name: "m.U", Type: shared}}, Exports: []impl.Named{{Name: "v", Type: fnT(shared, shared)}, {Name: "w", Type: shared}}}}
	r := impl.CheckOne("main", "import m let a = m.v let b = m.v let c = {a = a, b = a, w = m.w}", false, nil, of)
	answer := newMemory()
	answer.addResult(r)
	wantNewMemory(t, "CheckOne", answer, newMemory())
	if len(r.Diags) > 0 || len(r.Summary.Exports) != 3 || len(r.Summary.Types) != 1 {
		t.Error(impl.ResultText(r), impl.SummaryText(r.Summary))
	}
}

// greatSet is a row of modules of which each has a value in which that of the one ahead stands so many times.
func greatSet(count, times int) []impl.Source {
	list := sourcesOf("m10", "let v = 1")
	for i := 11; i < 10+count; i++ {
		of := "m" + strconv.Itoa(i-1)
		text := "import " + of + "\nlet v = {"
		for k := range times {
			text += commaBehind(k) + "f" + strconv.Itoa(k) + " = " + of + ".v"
		}
		list = append(list, impl.Source{Name: "m" + strconv.Itoa(i), Text: text + "}"})
	}
	return list
}

func commaBehind(count int) string {
	if count == 0 {
		return ""
	}
	return ", "
}

func TestSetsOfGreatTypes(t *testing.T) {
	// from some module on no memory holds what is told; beyond MaxDeep it is any, and so small again
	list := greatSet(impl.MaxModules, 100)
	report := impl.Report(list)
	if strings.Count(report, ": ok\n") != len(list) {
		t.Error(report)
	}
	all := impl.CheckAll(list)
	wantEachTold(t, list, all)
	for i, r := range all {
		x, deep := innermost(r.Summary.Exports[0].Type, i)
		want := intT
		if i > impl.MaxDeep {
			want = anyT
		}
		if wantDeep := i % (impl.MaxDeep + 1); deep != wantDeep || !sameType(x, want) {
			t.Errorf("%s is %d deep, and %s there", r.Name, deep, impl.TypeText(x))
		}
	}
	// those that are held by memory have lists of their own
	list = greatSet(7, 5)
	answer := newMemory()
	answer.addResults(impl.CheckAll(list))
	wantNewMemory(t, "CheckAll", answer, newMemory())
	if len(answer.places) < 15000 {
		t.Error("the answer is small:", len(answer.places))
	}
	// what has more bytes than MaxBytes has none as a result, and its summary is right all the same
	great := impl.Summary{Name: "x", Exports: []impl.Named{{Name: "v", Type: greatType(intT, 9)}}}
	if !impl.SummaryOk(great) || impl.PutResult(impl.Result{Name: "x", Summary: great}) != "" {
		t.Error("PutResult of a great summary")
	}
	great.Exports[0].Type = greatType(intT, 5)
	wantResultBytes(t, impl.Result{Name: "x", Summary: great}, impl.PutTexts([]string{"x", "x: ok\n", impl.PutSummary(great)}))
}

func TestAnyReportIsAnswered(t *testing.T) {
	long := strings.Repeat("x", 1000000)
	for _, name := range []string{"", "m", "let", "\xff", long} {
		for _, text := range []string{"", "let", "import m let v = m.v", long, strings.Repeat("(", impl.MaxSource), "let x = " + strings.Repeat("(", 2900), "type T = " + strings.Repeat("{a: ", 700), strings.Repeat("\x00", impl.MaxSource)} {
			for _, missing := range [][]string{nil, {"m"}, {"", long, "\xff"}, make([]string, 100000)} {
				impl.CheckOne(name, text, false, missing, nil)
				impl.CheckOne(name, text, true, missing, []impl.Summary{{}, {Name: long}})
			}
		}
	}
	for _, s := range append(summariesOfWrongTypes(t), rightSummaries(t)...) {
		s.Name = "m"
		for _, text := range []string{"import m let v = m.a let w: m.T = v", "import m let a = m.a.x(1) + m.b let b = {x = m.a, y = m.a}", "import m fn f(x: m.T | int): m.T = m.a(f, x)"} {
			impl.PutResult(impl.CheckOne("x", text, false, nil, []impl.Summary{s, dark("x")}))
			impl.PutResult(impl.CheckOne("m", text, false, nil, []impl.Summary{s}))
			impl.CheckOne("x", text, false, []string{"m"}, []impl.Summary{dark("x"), s, s})
		}
		impl.GetResult(impl.PutResult(impl.Result{Name: s.Name, Summary: s}))
	}
	great := impl.Summary{Name: "m", Types: []impl.Named{{Name: "m.T", Type: greatType(nameT("m.T"), impl.MaxDeep)}}, Exports: []impl.Named{{Name: "a", Type: greatType(nameT("m.T"), impl.MaxDeep)}, {Name: "b", Type: nameT("m.T")}}}
	r := impl.CheckOne("x", "import m let v = m.a let w = {p = m.b, q = m.b}", false, nil, []impl.Summary{great})
	if len(r.Diags) > 0 || impl.PutResult(r) != "" || impl.PutResult(impl.Result{Name: "m", Summary: great}) != "" {
		t.Error("by a summary that no memory holds:", faultsText(r.Diags))
	}
	wantGreat(t, "CheckOne", r.Summary.Exports[0].Type, nameT("m.T"), impl.MaxDeep)
	// one text in very many diags: no memory holds theirs
	many := impl.Result{Name: "m", Diags: slices.Repeat([]impl.Diag{{Line: 1, Code: long}}, 100000), Summary: dark("m")}
	if impl.ResultText(many) != "" || impl.PutResult(many) != "" {
		t.Error("the text of a result that no memory holds")
	}
	for seed := range uint64(3000) {
		s := string(someBytes(seed, 60))
		impl.GetResult(s)
		impl.GetResult(impl.PutTexts([]string{"m", s, impl.PutSummary(dark("m"))}))
		impl.GetResult(impl.PutTexts([]string{"m", "m: ok\n", s}))
		var list []impl.Source
		bytes := someBytes(seed, 200)
		for len(bytes) > 60 {
			name, text := int(bytes[0])%4, int(bytes[1])%50
			list = append(list, impl.Source{Name: string(bytes[2 : 2+name]), Text: "import " + string(bytes[2+name:6+name+text])})
			bytes = bytes[6+name+text:]
		}
		reportAsByWords(t, list)
	}
	for _, unit := range []string{" 1:if", " ", ":", "1", "m:", "\n", "\xff"} {
		impl.GetResult(impl.PutTexts([]string{"m", "m:" + strings.Repeat(unit, 100000) + "\n", impl.PutSummary(dark("m"))}))
		impl.GetResult(strings.Repeat(unit, 100000))
	}
}

func FuzzReport(f *testing.F) {
	const between = "--\n"
	madeReports(6, func(m *reportMaker, list []impl.Source) {
		var texts []string
		for _, s := range list {
			texts = append(texts, s.Text)
		}
		f.Add(strings.Join(texts, between), "import a\nlet v1 = a.v1 + 1", impl.ResultText(impl.CheckAll(list)[0]))
	})
	f.Fuzz(func(t *testing.T, texts, text, told string) {
		var list []impl.Source
		for i, s := range strings.SplitN(texts, between, 6) {
			list = append(list, impl.Source{Name: string(rune('a' + i)), Text: s})
		}
		all := reportAsByWords(t, list)
		for at := range all {
			if len(text) <= greatestText {
				wantOthersTheSame(t, list, all, at, text)
			}
		}
		name, _, _ := strings.Cut(told, ":")
		wantOnlyResultsBytes(t, impl.PutTexts([]string{name, told, impl.PutSummary(dark(name))}))
		wantOnlyResultsBytes(t, told)
	})
}
