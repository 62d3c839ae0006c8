package tests

import (
	"regexp"
	"runtime"
	"slices"
	"strconv"
	"strings"
	"testing"

	"loop.example/g00276/impl"
)

// From here on the document's chapter is told once more, sentence by sentence.

// typeOfModule reads a type as the only definition of a module, which takes some bytes more.
func typeOfModule(s string) (impl.Type, bool) {
	m, line := impl.ParseModule("type x=" + s)
	if line > 0 || len(m.Imports) > 0 || len(m.Defs) != 1 || m.Defs[0].Kind != impl.DefType {
		return impl.Type{}, false
	}
	return m.Defs[0].Type, true
}

// A wordsDesk has a farm, or none.
type wordsDesk struct {
	set  []impl.Source
	farm []impl.Farm
}

var (
	formOfName   = regexp.MustCompile(`^(module|check|summary|run) ([a-zA-Z][a-zA-Z0-9]{0,11})$`)
	formOfNumber = regexp.MustCompile(`^(deliver|drop|twice|crash|up) (0|[1-9][0-9]{0,5})$`)
	formOfFarm   = regexp.MustCompile(`^farm ([1-9]|[12][0-9]|30)$`)
	formOfFits   = regexp.MustCompile(`(?s)^fits (.*?)<:(.*)$`)
)

// wordsOfLine are the word of a line and what stands behind it; a line that is none has no word.
func wordsOfLine(line string) (word, name string, number int) {
	if f := formOfName.FindStringSubmatch(line); f != nil && !impl.IsWord(f[2]) {
		return f[1], f[2], 0
	}
	if f := formOfNumber.FindStringSubmatch(line); f != nil {
		number, _ = strconv.Atoi(f[2])
		return f[1], "", number
	}
	if f := formOfFarm.FindStringSubmatch(line); f != nil {
		number, _ = strconv.Atoi(f[1])
		return "farm", "", number
	}
	switch line {
	case "report", "order", "tick", "calm", "done":
		return line, "", 0
	}
	return "", "", 0
}

func isScriptByWords(text string) bool {
	return len(text) <= 12000 && strings.Count(text, "\n") <= 150 && (text == "" || text[len(text)-1] == '\n')
}

func deskByWords(text string) string {
	if !isScriptByWords(text) {
		return "long\n"
	}
	d := &wordsDesk{}
	out := ""
	for text != "" {
		line, rest, _ := strings.Cut(text, "\n")
		text = rest
		word, name, number := wordsOfLine(line)
		if word == "module" {
			own := ""
			for text != "" {
				next, rest, _ := strings.Cut(text, "\n")
				text = rest
				if next == "--" {
					break
				}
				own += next + "\n"
			}
			out += d.module(name, own) + "\n"
			continue
		}
		out += strings.ReplaceAll(d.answer(line, word, name, number), "\n", ";") + "\n"
	}
	return out
}

func (d *wordsDesk) module(name, text string) string {
	set := slices.DeleteFunc(slices.Clone(d.set), func(s impl.Source) bool { return s.Name == name })
	set = append(set, impl.Source{Name: name, Text: text})
	slices.SortFunc(set, func(a, b impl.Source) int { return strings.Compare(a.Name, b.Name) })
	if !impl.SetOk(set) {
		return "full"
	}
	d.set, d.farm = set, nil
	return "ok"
}

func (d *wordsDesk) answer(line, word, name string, number int) string {
	switch word {
	case "report":
		return impl.Report(d.set)
	case "check", "summary":
		for _, r := range impl.CheckAll(d.set) {
			if r.Name == name && word == "check" {
				return impl.ResultText(r)
			}
			if r.Name == name {
				return impl.SummaryText(r.Summary)
			}
		}
		return "none"
	case "order":
		return orNothing(impl.Order(d.set))
	case "run":
		return d.run(name)
	case "farm":
		store := impl.Store{Room: 50}
		if len(d.farm) > 0 {
			store = d.farm[0].Store
		}
		f, ok := impl.FarmStart(d.set, number, 3, store)
		d.farm = []impl.Farm{f}
		return map[bool]string{true: "ok", false: "no farm"}[ok]
	}
	if f := formOfFits.FindStringSubmatch(line); f != nil {
		a, isA := typeOfModule(f[1])
		b, isB := typeOfModule(f[2])
		if !isA || !isB {
			return "what"
		}
		return map[bool]string{true: "yes", false: "no"}[impl.Fits(nil, a, b)]
	}
	if word == "" {
		return "what"
	}
	if len(d.farm) == 0 {
		return "none"
	}
	return d.ofFarm(word, number)
}

func (d *wordsDesk) ofFarm(word string, number int) string {
	f := d.farm[0]
	switch word {
	case "done":
		if text, ok := impl.FarmReport(f); ok {
			return text
		}
		return "wait"
	case "calm":
		f = impl.FarmCalm(f)
	default:
		kind := map[string]int{"tick": impl.EvTick, "deliver": impl.EvDeliver, "drop": impl.EvDrop, "twice": impl.EvTwice, "crash": impl.EvCrash, "up": impl.EvUp}[word]
		f = impl.FarmDo(f, impl.Event{Kind: kind, At: number})
	}
	d.farm[0] = f
	return strconv.Itoa(len(f.Done)) + " " + strconv.Itoa(len(f.Net))
}

func (d *wordsDesk) run(name string) string {
	var told []string
	for _, done := range impl.Run(impl.Unit0(d.set), 2000) {
		if done.Unit == name {
			told = append(told, done.Name+"="+[]string{impl.ValText(done.Val), "stuck", "fuel"}[done.Code])
		}
	}
	return orNothing(told)
}

func orNothing(list []string) string {
	if len(list) == 0 {
		return "-"
	}
	return strings.Join(list, " ")
}

func deskAsByWords(t *testing.T, text string) string {
	t.Helper()
	got := impl.Desk(text)
	if want := deskByWords(text); got != want {
		t.Fatalf("Desk of\n%s\ntells\n%s\nwant\n%s", text, got, want)
	}
	return got
}

// A scriptMaker makes scripts of modules, right ones and wrong ones, and lines of all kinds.
type scriptMaker struct {
	typeMaker
	names []string
}

var (
	scriptTypes = []string{"int", "text", "any", "{a: int}", "{a: int, b: text}", "{b: text, a: int}", "(int) -> int", "int | text", "T", "m.T", "{}", "", "int int", "(", "{a: int, a: int}", "() -> any | text"}
	scriptWrong = []string{"", "what", "--", "report ", " tick", "Tick", "farm 0", "farm 31", "farm 01", "farm", "deliver 1000000", "deliver 00", "deliver", "drop -1", "check 1", "check", "run let", "summary a b", "module", "module 2", "module let", "\xff\x00", "order\r", "fits", "fits int", "calm 1", "forget 1"}
	scriptTexts = []string{"", "let v1 = 1\n", "import a\nlet x = a.v1 + 1\n", "let v1 = 1 + true\n", "let\n", "import b\nimport c\n", "import none\n", "import m\n", "# --\n---\n", "\n\n", "fn f(n: int): int = f(n + 1)\nlet x = f(1)\n"}
)

func (m *scriptMaker) name() string {
	if m.next(8) == 7 {
		return []string{"q", "report", "abcdefghijkl", "A"}[m.next(4)]
	}
	return m.names[m.next(len(m.names))]
}

func (m *scriptMaker) line() string {
	number := strconv.Itoa(m.next(4))
	switch m.next(24) {
	case 0:
		return "report"
	case 1:
		return "order"
	case 2:
		return "check " + m.name()
	case 3:
		return "summary " + m.name()
	case 4:
		return "run " + m.name()
	case 5:
		return "fits " + scriptTypes[m.next(len(scriptTypes))] + []string{" <: ", "<:", " <: <: ", " < "}[max(0, m.next(14)-10)] + scriptTypes[m.next(len(scriptTypes))]
	case 6, 7:
		return "farm " + strconv.Itoa([]int{1, 2, 3, 30}[m.next(4)])
	case 8, 9, 10:
		return "tick"
	case 11, 12, 13, 14, 15:
		return "deliver " + number
	case 16:
		return "drop " + number
	case 17:
		return "twice " + number
	case 18:
		return "crash " + number
	case 19:
		return "up " + number
	case 20:
		return "calm"
	case 21, 22:
		return "done"
	}
	return scriptWrong[m.next(len(scriptWrong))]
}

// moduleLines are those of one module with its text; some have no end.
func (m *scriptMaker) moduleLines(s impl.Source) []string {
	list := append([]string{"module " + s.Name}, strings.Split(strings.TrimSuffix(s.Text, "\n"), "\n")...)
	if m.next(60) == 0 {
		return list
	}
	return append(list, "--")
}

// script has modules of a set first, most often, and then lines, among them modules in the places of others.
func (m *scriptMaker) script(list []impl.Source) []string {
	var out []string
	size := 0
	add := func(more ...string) {
		if len(out)+len(more) <= mostLines && size+len(script(more...)) <= impl.MaxScript {
			out, size = append(out, more...), size+len(script(more...))
		}
	}
	for _, s := range list {
		m.names = append(m.names, s.Name)
	}
	m.names = append(m.names, "m")
	for _, s := range list {
		for range max(0, m.next(12)-9) {
			add(m.line())
		}
		add(m.moduleLines(s)...)
	}
	for range m.next(100) {
		if m.next(14) == 0 {
			add(m.moduleLines(impl.Source{Name: m.name(), Text: scriptTexts[m.next(len(scriptTexts))]})...)
		}
		add(m.line())
	}
	return out
}

// madeScripts makes scripts of sets that are made.
func madeScripts(seeds uint64, do func(lines []string)) {
	seed := uint64(0)
	madeReports(seeds, func(_ *reportMaker, list []impl.Source) {
		seed++
		m := &scriptMaker{typeMaker: typeMaker{bytes: someBytes(seed+515151, 1500)}}
		do(m.script(list))
	})
}

func TestScriptsThatAreMadeAsTheWordsTell(t *testing.T) {
	counts := map[string]int{}
	madeScripts(800, func(lines []string) {
		told := deskAsByWords(t, script(lines...))
		for _, answer := range strings.Split(told, "\n") {
			if len(answer) > 6 {
				answer = "more"
			}
			counts[answer]++
		}
	})
	for _, answer := range []string{"ok", "none", "what", "-", "yes", "no", "wait", "more", "", "0 0", "0 1", "1 1", "1 0", "2 0", "3 0", "4 0"} {
		if counts[answer] < 30 {
			t.Error("seldom told", answer, counts[answer])
		}
	}
	if counts["long"] > 0 {
		t.Error("the test's scripts are too long", counts["long"])
	}
}

// Each script of few lines, of so many sorts.
func TestEachShortScript(t *testing.T) {
	sorts := []string{"module a", "module b", "--", "import b", "let v = 1", "report", "run a", "farm 2", "tick", "deliver 0", "calm", "done", ""}
	for count := range 6 {
		eachNumbers(count, len(sorts), func(list []int) {
			var lines []string
			for _, at := range list {
				lines = append(lines, sorts[at])
			}
			deskAsByWords(t, script(lines...))
		})
	}
}

// Each short run of a farm with two modules on the desk.
func TestEachShortRunOfTheDesk(t *testing.T) {
	ahead := behind(sourcesOf("a", "import b\nlet x = b.v\n", "b", "let v = 1\n"), "farm 2", "tick")
	sorts := []string{"tick", "deliver 0", "deliver 1", "drop 0", "twice 0", "crash 1", "up 1", "calm", "done", "farm 1", "module b"}
	eachNumbers(4, len(sorts), func(list []int) {
		lines := slices.Clone(ahead)
		for _, at := range list {
			lines = append(lines, sorts[at])
			if sorts[at] == "module b" {
				lines = append(lines, "--")
			}
		}
		deskAsByWords(t, script(lines...))
	})
}

// Promise 13: behind each line, the text of a module or not, what is told of the beginning is how what is told begins.
func TestWhatIsToldOfAScriptBeginsWithWhatIsToldOfItsBeginning(t *testing.T) {
	cuts, behindModules := 0, 0
	hold := func(lines, more []string) {
		t.Helper()
		whole := script(append(slices.Clone(lines), more...)...)
		if !isScriptByWords(whole) {
			return
		}
		told := impl.Desk(whole)
		for at := range len(lines) + len(more) + 1 {
			beginning := script(append(slices.Clone(lines), more...)[:at]...)
			if at == 0 {
				beginning = ""
			}
			cuts++
			of := impl.Desk(beginning)
			if !strings.HasPrefix(told, of) {
				t.Fatalf("of the first %d lines of\n%s\nis told\n%s\nof all\n%s", at, whole, of, told)
			}
			// as many answers as there are lines outside the texts of modules
			if want := countAnswers(beginning); strings.Count(of, "\n") != want {
				t.Fatalf("%d answers, want %d, of\n%s", strings.Count(of, "\n"), want, beginning)
			}
			behindModules += strings.Count(beginning, "\n--\n")
		}
	}
	var last []string
	madeScripts(40, func(lines []string) {
		hold(lines, nil)
		hold(lines[:min(len(lines), 70)], last[:min(len(last), 70)])
		last = lines
	})
	if cuts < 4000 || behindModules < 4000 {
		t.Error("the test's scripts are short", cuts, behindModules)
	}
}

func countAnswers(text string) int {
	count := 0
	within := false
	for _, line := range strings.SplitAfter(text, "\n") {
		word, _, _ := wordsOfLine(strings.TrimSuffix(line, "\n"))
		switch {
		case line == "":
		case within:
			within = line != "--\n"
		default:
			count++
			within = word == "module"
		}
	}
	return count
}

// What stands behind a module without an end is its text: it tells nothing.
func TestWhatStandsBehindAModuleWithoutAnEndIsItsText(t *testing.T) {
	held := 0
	var last []string
	madeScripts(300, func(lines []string) {
		open := script(append(slices.Clone(lines[:min(len(lines), 60)]), "--", "module zz", "let v = 1")...)
		more := slices.DeleteFunc(slices.Clone(last[:min(len(last), 60)]), func(line string) bool { return line == "--" })
		last = lines
		if whole := open + script(more...); isScriptByWords(whole) {
			held++
			told, all := impl.Desk(open), impl.Desk(whole)
			if told != all {
				t.Fatalf("%q and %q of\n%s", told, all, whole)
			}
			// with an end it is what stood behind
			if ended := impl.Desk(whole + "--\ncheck zz\n"); isScriptByWords(whole+"--\ncheck zz\n") && !strings.HasPrefix(ended, told+"zz:") {
				t.Fatalf("%q behind %q of\n%s", ended, told, whole)
			}
		}
	})
	if held < 100 {
		t.Error("few of the test's scripts are short", held)
	}
}

// From here on types are read.

func readAsByWords(t *testing.T, s string) bool {
	t.Helper()
	got, ok := impl.ReadType(s)
	want, wanted := typeOfModule(s)
	if ok != wanted || !sameType(got, want) {
		t.Fatalf("ReadType(%q) = %+v, %t, want %+v, %t", s, got, ok, want, wanted)
	}
	if !ok {
		return false
	}
	again, ok := impl.ReadType(impl.TypeText(got))
	if !impl.TypeOk(got) || !ok || !sameType(again, got) {
		t.Fatalf("ReadType(%q) is %+v, and shown and read again %+v, %t", s, got, again, ok)
	}
	return true
}

func TestEachShortTextOfATypeAsTheWordsTell(t *testing.T) {
	words := []string{"int", "any", "a", ".", "|", "(", ")", "{", "}", ":", ",", "->"}
	read := 0
	for count := range 6 {
		eachNumbers(count, len(words), func(list []int) {
			s := ""
			for _, at := range list {
				s += words[at] + " "
			}
			if readAsByWords(t, s) {
				read++
			}
		})
	}
	if read < 100 {
		t.Error("few types", read)
	}
}

func TestTypesThatAreMadeAreRead(t *testing.T) {
	read, amiss := 0, 0
	for seed := range uint64(6000) {
		m := &moduleMaker{typeMaker: typeMaker{bytes: someBytes(seed+31337, 300)}}
		want := m.wholeType(4)
		s := m.out.String()
		if len(s) > impl.MaxSource-100 {
			continue
		}
		got, ok := impl.ReadType(s)
		if !ok || !sameType(got, want) {
			t.Fatalf("ReadType(%q) = %+v, %t, want %+v", s, got, ok, want)
		}
		readAsByWords(t, s)
		read++
		// a byte amiss
		at := m.next(200) % len(s)
		b := "(){}|:,.-> aT1\n\""[m.next(16)]
		for _, other := range []string{s[:at] + s[at+1:], s[:at] + string(b) + s[at:], s[:at] + string(b) + s[at+1:], s[:at]} {
			if !readAsByWords(t, other) {
				amiss++
			}
		}
	}
	if read < 4000 || amiss < 8000 {
		t.Error("the test's types are of one sort", read, amiss)
	}
}

func TestTypesThatAreReadAreNewMemory(t *testing.T) {
	for seed := range uint64(300) {
		m := &moduleMaker{typeMaker: typeMaker{bytes: someBytes(seed+99, 300)}}
		m.wholeType(4)
		s := m.out.String()
		before := strings.Clone(s)
		given, answer, again := newMemory(), newMemory(), newMemory()
		given.texts = append(given.texts, s)
		got, _ := impl.ReadType(s)
		answer.addType(got)
		wantNewMemory(t, "ReadType", answer, given)
		second, _ := impl.ReadType(s)
		again.addType(second)
		wantNewMemory(t, "ReadType twice", again, answer)
		if s != before {
			t.Fatal("written into", before)
		}
	}
}

func TestAnswersOfTheDeskAreNewMemory(t *testing.T) {
	hold := func(text string) {
		t.Helper()
		before := strings.Clone(text)
		given, answer, again := newMemory(), newMemory(), newMemory()
		given.texts = append(given.texts, text)
		answer.texts = append(answer.texts, impl.Desk(text))
		wantNewMemory(t, "Desk", answer, given)
		again.texts = append(again.texts, impl.Desk(text))
		wantNewMemory(t, "Desk twice", again, answer)
		if text != before || again.texts[0] != answer.texts[0] {
			t.Fatal("written into, or told otherwise", before)
		}
	}
	madeScripts(100, func(lines []string) { hold(script(lines...)) })
	hold("no script")
	hold("check none\n")
	hold("module a\nlet none = \"what\"\n--\nrun a\n")
}

// growing is a module of lets, each a record of so many fields of the one ahead.
func growing(levels, fields int) string {
	text := "let x0=1\n"
	for i := 1; i <= levels; i++ {
		var list []string
		for k := range fields {
			list = append(list, string(rune('a'+k))+"=x"+strconv.Itoa(i-1))
		}
		text += "let x" + strconv.Itoa(i) + "={" + strings.Join(list, ",") + "}\n"
	}
	return text
}

// grownSize is how many bytes are told of the last let of growing: each name and what stands behind it, with what
// stands between two.
func grownSize(levels, fields, between, leaf int) int {
	size := leaf
	for range levels {
		size = fields*(1+between+size) + 2*(fields-1) + 2
	}
	return size
}

// What is told of types and values may be great: it is told whole, unless no memory holds it.
func TestGreatAnswersOfTheDesk(t *testing.T) {
	const levels, fields = 5, 20
	list := sourcesOf("a", growing(levels, fields))
	lines := behind(list, "summary a", "run a", "order")
	sizes := [2]int{len("module a;"), 0}
	for level := range levels + 1 {
		sizes[0] += len("x0: ;") + grownSize(level, fields, len(": "), len("int"))
		sizes[1] += len("x0=") + min(level, 1) + grownSize(level, fields, len(" = "), len("1"))
	}
	told := strings.Split(impl.Desk(script(lines...)), "\n")
	if len(told) != 5 || told[0] != "ok" || told[3] != "a" {
		t.Fatal(len(told))
	}
	for i, want := range sizes {
		if got := len(told[1+i]); got != want {
			t.Errorf("%s has %d bytes, want %d", lines[len(lines)-3+i], got, want)
		}
	}
	summary, _ := strings.CutSuffix(told[1], ";")
	last := summary[strings.LastIndex(summary, ";x5: ")+len(";x5: "):]
	if text := impl.TypeText(impl.CheckAll(list)[0].Summary.Exports[levels].Type); last != text {
		t.Error("the type that is told last is another one")
	}
	done := impl.Run(impl.Unit0(list), 2000)
	if text := impl.ValText(done[levels].Val); !strings.HasSuffix(told[2], " x5="+text) {
		t.Error("the value that is told last is another one")
	}
}

func TestAnswersOfTheDeskThatNoMemoryHolds(t *testing.T) {
	before := heapSize()
	list := sourcesOf("a", growing(9, 20), "b", "import a\nlet v = a.x9\nlet w = a.x3\n", "c", "import a\nlet v = a.x3\n")
	told := strings.Split(impl.Desk(script(behind(list, "summary a", "summary b", "run a", "run b", "summary c", "run c", "report", "order")...)), "\n")
	if len(told) != 12 || told[3] != "" || told[4] != "" || told[5] != "" || told[6] != "" || told[9] != "a: ok;b: ok;c: ok;" || told[10] != "a b c" {
		t.Fatal(len(told), len(told[3]), len(told[4]), len(told[5]), len(told[6]), told[9:])
	}
	if got, want := len(told[7]), len("module c;v: ;")+grownSize(3, 20, 2, 3); got != want {
		t.Errorf("summary c has %d bytes, want %d", got, want)
	}
	if got, want := len(told[8]), len("v=")+grownSize(3, 20, 3, 1); got != want {
		t.Errorf("run c has %d bytes, want %d", got, want)
	}
	// a text that doubles
	text := "let x0 = \"ab\"\n"
	for i := 1; i <= 50; i++ {
		text += "let x" + strconv.Itoa(i) + " = x" + strconv.Itoa(i-1) + " + x" + strconv.Itoa(i-1) + "\n"
	}
	got := impl.Desk(script(behind(sourcesOf("a", text[:strings.Index(text, "let x20")]), "run a", "run a")...))
	if want := 3 + 2*(len("x=\"\" ")*20+10+10*2+1<<21-2); len(got) != want {
		t.Errorf("%d bytes, want %d", len(got), want)
	}
	if got := impl.Desk(script(behind(sourcesOf("a", text), "check a", "order")...)); got != "ok\na: ok;\na\n" {
		t.Error(got)
	}
	// what is told of one module keeps nothing of what others came to, however often they are others
	texts := strings.ReplaceAll(text[:strings.Index(text, "let x25")], "\n", " ") + "\n"
	lines, want := behind(sourcesOf("a", "let x = 1\n", "b", texts)), "ok\nok\n"
	for range 40 {
		lines, want = append(lines, "module c", "--", "run a"), want+"ok\nx=1\n"
	}
	if got := impl.Desk(script(lines...)); got != want {
		t.Errorf("%.300q", got)
	}
	if after := heapSize(); after > before+1<<31 {
		t.Errorf("%d bytes taken for what no memory holds", after-before)
	}
}

// What great types are told of goes over the net many times, and stands in many results.
func TestGreatFarmsOfTheDesk(t *testing.T) {
	before := heapSize()
	list := sourcesOf("a", growing(5, 16))
	want := "a: ok;"
	for _, name := range []string{"b", "c", "d", "e", "f", "g"} {
		list = append(list, impl.Source{Name: name, Text: "import a\nlet v = a.x5\n"})
		want += name + ": ok;"
	}
	wantBehind(t, list, []string{"farm 3", "tick", "deliver 0", "deliver 0", "tick", "twice 0", "calm", "done"}, "ok", "0 1", "0 1", "1 0", "1 6", "1 7", "7 0", want)
	// one that tells more than goes over the net is never done
	list[1].Text += "let w = a.x5\nlet x = a.x5\nlet y = a.x5\n"
	wantBehind(t, list[:3], []string{"farm 3", "calm", "done"}, "ok", "2 0", "wait")
	if after := heapSize(); after > before+1<<30 {
		t.Errorf("%d bytes taken", after-before)
	}
}

func heapSize() uint64 {
	var m runtime.MemStats
	runtime.ReadMemStats(&m)
	return m.Sys
}

func TestAnyScriptIsAnswered(t *testing.T) {
	for seed := range uint64(3000) {
		m := &typeMaker{bytes: someBytes(seed+606060, 400)}
		deskAsByWords(t, string(m.bytes))
		deskAsByWords(t, string(m.bytes)+"\n")
		// words thrown together
		text := ""
		for range m.next(60) {
			text += []string{"module", "report", "check", "farm", "tick", "deliver", "fits", "run", "a", "b", "1", "0", "<:", "int", "--", "let", "=", " ", " ", " ", "\n", "\n", "\n", "\n--\n", "\nmodule a\n", "\nfarm 2\ntick\n", "\x00", "999999"}[m.next(28)]
		}
		deskAsByWords(t, text)
		deskAsByWords(t, text+"\n")
		readAsByWords(t, strings.ReplaceAll(text, "module", "|"))
	}
}

func FuzzDesk(f *testing.F) {
	madeScripts(30, func(lines []string) { f.Add(script(lines...), "{a: int | text} | (m.T) -> any") })
	f.Fuzz(func(t *testing.T, text, of string) {
		if len(of) < impl.MaxSource-100 {
			readAsByWords(t, of)
		}
		deskAsByWords(t, text)
		deskAsByWords(t, "fits "+of+"<:"+of+"\n")
		told := deskAsByWords(t, text+"\n")
		if told == "long\n" {
			return
		}
		// promise 13
		lines := strings.SplitAfter(text+"\n", "\n")
		for at := range lines {
			if of := impl.Desk(strings.Join(lines[:at], "")); !strings.HasPrefix(told, of) {
				t.Fatalf("of the first %d lines of\n%s\nis told\n%s\nof all\n%s", at, text, of, told)
			}
		}
	})
}
