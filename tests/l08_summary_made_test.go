package tests

import (
	"math"
	"reflect"
	"slices"
	"strings"
	"testing"

	"loop.example/g00276/impl"
)

// From here on the document's chapter is told once more, sentence by sentence.

func numByWords(n int) string {
	out := []byte{byte(n % 128)}
	for n /= 128; n > 0; n /= 128 {
		out[len(out)-1] += 128
		out = append(out, byte(n%128))
	}
	return string(out)
}

func textByWordsOfBytes(s string) string {
	return numByWords(len(s)) + s
}

// rawType asks for nothing: it puts together what there is, right or wrong.
func rawType(t impl.Type) string {
	out := string([]byte{byte(t.Kind)})
	switch {
	case t.Kind == impl.TyName:
		return out + textByWordsOfBytes(t.Name)
	case t.Kind >= impl.TyInt && t.Kind <= impl.TyAny:
		return out
	}
	out += numByWords(len(t.Kids))
	for i, kid := range t.Kids {
		if t.Kind == impl.TyRecord && i < len(t.Names) {
			out += textByWordsOfBytes(t.Names[i])
		}
		out += rawType(kid)
	}
	return out
}

func putTypeByWords(t impl.Type) string {
	if !okByWords(t, 0) {
		return ""
	}
	return rawType(t)
}

func rawSummary(s impl.Summary) string {
	out := textByWordsOfBytes(s.Name) + map[bool]string{true: "\x01", false: "\x00"}[s.Bad]
	for _, list := range [][]impl.Named{s.Types, s.Exports} {
		out += numByWords(len(list))
		for _, n := range list {
			out += textByWordsOfBytes(n.Name) + rawType(n.Type)
		}
	}
	return out
}

func summaryOkByWords(s impl.Summary) bool {
	if !impl.NameOk(s.Name) {
		return false
	}
	if s.Bad {
		return len(s.Types) == 0 && len(s.Exports) == 0
	}
	if !envByWords(s.Types) || !envByWords(s.Exports) {
		return false
	}
	reached := map[string]bool{}
	for _, n := range s.Exports {
		if strings.Contains(n.Name, ".") {
			return false
		}
		for _, name := range reachByWords(s.Types, n.Type) {
			reached[name] = true
		}
	}
	for _, n := range s.Types {
		if !strings.Contains(n.Name, ".") || !reached[n.Name] {
			return false
		}
		delete(reached, n.Name)
	}
	return len(reached) == 0
}

func narrowByWords(s impl.Summary, names []string) impl.Summary {
	if !summaryOkByWords(s) {
		return s
	}
	out := impl.Summary{Name: s.Name, Bad: s.Bad}
	reached := map[string]bool{}
	for _, n := range s.Exports {
		if slices.Contains(names, n.Name) {
			out.Exports = append(out.Exports, n)
			for _, name := range reachByWords(s.Types, n.Type) {
				reached[name] = true
			}
		}
	}
	for _, n := range s.Types {
		if reached[n.Name] {
			out.Types = append(out.Types, n)
		}
	}
	return out
}

func summaryTextByWords(s impl.Summary) string {
	text := "module " + s.Name
	if s.Bad {
		text += " bad"
	}
	text += "\n"
	for _, n := range s.Types {
		text += "type " + n.Name + " = " + impl.TypeText(n.Type) + "\n"
	}
	for _, n := range s.Exports {
		text += n.Name + ": " + impl.TypeText(n.Type) + "\n"
	}
	return text
}

// typesOfBytes are all types of just so many bytes, with letters a and T for names, by how many these are.
func typesOfBytes(most int) [][]impl.Type {
	out := make([][]impl.Type, most+1)
	if most >= 1 {
		out[1] = listT(intT, textT, boolT, anyT)
	}
	for size := 2; size <= most; size++ {
		for _, name := range shortTexts("aT.", size-2) {
			if x := nameT(name); len(name) == size-2 && okByWords(x, 0) {
				out[size] = append(out[size], x)
			}
		}
		eachRow(out, size-2, false, func(_ []string, kids []impl.Type) {
			for _, x := range listT(impl.Type{Kind: impl.TyFn, Kids: kids}, impl.Type{Kind: impl.TyUnion, Kids: kids}) {
				if okByWords(x, 0) {
					out[size] = append(out[size], x)
				}
			}
		})
		eachRow(out, size-2, true, func(names []string, kids []impl.Type) {
			if x := (impl.Type{Kind: impl.TyRecord, Names: names, Kids: kids}); okByWords(x, 0) {
				out[size] = append(out[size], x)
			}
		})
	}
	return out
}

// eachRow hands out each row of types that has so many bytes, with names ahead of them or without.
func eachRow(types [][]impl.Type, size int, named bool, do func(names []string, kids []impl.Type)) {
	var more func(left int, names []string, kids []impl.Type)
	more = func(left int, names []string, kids []impl.Type) {
		if left == 0 {
			do(slices.Clone(names), slices.Clone(kids))
			return
		}
		for of := 1; of <= left; of++ {
			if !named {
				for _, x := range types[of] {
					more(left-of, names, append(kids, x))
				}
				continue
			}
			for _, name := range shortTexts("aT", left-of-1) {
				if name == "" {
					continue
				}
				for _, x := range types[of] {
					more(left-of-1-len(name), append(names, name), append(kids, x))
				}
			}
		}
	}
	more(size, nil, nil)
}

func TestEachShortTextIsOneTypeAtMost(t *testing.T) {
	const most = 6
	known := map[string]impl.Type{}
	for size, list := range typesOfBytes(most) {
		for _, x := range list {
			bytes := putTypeByWords(x)
			if len(bytes) != size || impl.PutType(x) != bytes {
				t.Fatalf("PutType(%s) = %q, want %q", impl.TypeText(x), impl.PutType(x), bytes)
			}
			known[bytes] = x
		}
	}
	types, none := 0, 0
	for _, s := range shortTexts("\x00\x01\x02\x03\x04\x05\x06\x07aT.\x80", most) {
		wanted, want := impl.Type{}, -1
		for cut := range len(s) + 1 {
			if x, ok := known[s[:cut]]; ok {
				wanted, want = x, cut
			}
		}
		got, behind := impl.GetType(s, 0)
		if behind != want || !sameType(got, wanted) {
			t.Fatalf("GetType(%q, 0) = %+v, %d, want %+v, %d", s, got, behind, wanted, want)
		}
		if want == len(s) {
			types++
		} else if want < 0 {
			none++
		}
	}
	if types != len(known) || types < 300 || none < 100000 {
		t.Error("the test's texts are of one sort:", types, len(known), none)
	}
}

// madeTypes hands out types that are made, right and wrong.
func madeTypes(seeds uint64, do func(x impl.Type)) {
	for seed := range seeds {
		m := &typeMaker{bytes: someBytes(seed+7070707, 300)}
		do(m.make(1 + int(seed%6)))
	}
}

func TestTypesComeBackFromTheirBytes(t *testing.T) {
	right, wrong := 0, 0
	madeTypes(20000, func(x impl.Type) {
		bytes := putTypeByWords(x)
		if got := impl.PutType(x); got != bytes {
			t.Fatalf("PutType(%+v) = %q, want %q", x, got, bytes)
		}
		if bytes == "" {
			wrong++
			return
		}
		right++
		wantBytes(t, x, bytes)
		for cut := range len(bytes) {
			wantNoType(t, "cut off", bytes[:cut], 0)
		}
	})
	if right < 5000 || wrong < 1000 {
		t.Error("the test's types are of one sort:", right, wrong)
	}
}

// changed is a text with some bytes changed, left out, doubled, put in, or with numbers that could be shorter.
func changed(m *typeMaker, s string) string {
	for range 1 + m.next(3) {
		if s == "" {
			return s
		}
		at := m.next(256) * len(s) / 256
		switch m.next(7) {
		case 0:
			s = s[:at] + string([]byte{byte(m.next(10))}) + s[at+1:]
		case 1:
			s = s[:at] + string([]byte{byte(m.next(256))}) + s[at+1:]
		case 2:
			s = s[:at] + s[at+1:]
		case 3:
			s = s[:at] + string([]byte{byte(m.next(9))}) + s[at:]
		case 4:
			s = s[:at] + string([]byte{s[at] | 128, 0}) + s[at+1:]
		case 5:
			end := min(len(s), at+1+m.next(6))
			s = s[:end] + s[at:end] + s[end:]
		case 6:
			other := m.next(256) * len(s) / 256
			bytes := []byte(s)
			bytes[at], bytes[other] = bytes[other], bytes[at]
			s = string(bytes)
		}
	}
	return s
}

// wantOnlyItsBytes holds that what is taken at a place has just those bytes, and that what is not has none: no bytes
// up to any place are those that a type read by its form alone would have.
func wantOnlyItsBytes(t *testing.T, s string, i int) bool {
	t.Helper()
	got, behind := impl.GetType(s, i)
	if behind < 0 {
		if x, end, ok := typeByForm(s, i, 0); ok && putTypeByWords(x) == s[i:end] {
			t.Fatalf("GetType(%q, %d) is none, but there is %s", s, i, impl.TypeText(x))
		}
		if behind != -1 || !isZeroType(got) {
			t.Fatalf("GetType(%q, %d) = %+v, %d", s, i, got, behind)
		}
		return false
	}
	if !okByWords(got, 0) || putTypeByWords(got) != s[i:behind] || impl.PutType(got) != s[i:behind] {
		t.Fatalf("GetType(%q, %d) = %s, %d, whose bytes are %q", s, i, impl.TypeText(got), behind, impl.PutType(got))
	}
	return true
}

// typeByForm reads a type by its form, whatever stands in it.
func typeByForm(s string, i, deep int) (impl.Type, int, bool) {
	if i < 0 || i >= len(s) || deep > 50 {
		return impl.Type{}, 0, false
	}
	t := impl.Type{Kind: int(s[i])}
	i++
	if t.Kind <= impl.TyAny {
		return t, i, true
	}
	if t.Kind == impl.TyName {
		name, end := impl.GetText(s, i)
		t.Name = name
		return t, end, end >= 0
	}
	count, at := impl.GetNum(s, i)
	if at < 0 || count > len(s) {
		return t, 0, false
	}
	for range count {
		if t.Kind == impl.TyRecord {
			name, end := impl.GetText(s, at)
			if end < 0 {
				return t, 0, false
			}
			t.Names, at = append(t.Names, name), end
		}
		kid, end, ok := typeByForm(s, at, deep+1)
		if !ok {
			return t, 0, false
		}
		t.Kids, at = append(t.Kids, kid), end
	}
	return t, at, true
}

func TestNoOtherBytesAreATypes(t *testing.T) {
	taken, none := 0, 0
	madeTypes(15000, func(x impl.Type) {
		bytes := impl.PutType(x)
		if bytes == "" {
			bytes = rawType(x)
		}
		m := &typeMaker{bytes: someBytes(uint64(len(bytes))*31+uint64(taken), 200)}
		for range 8 {
			s := changed(m, bytes)
			for i := range min(len(s), 4) {
				if wantOnlyItsBytes(t, s, i) {
					taken++
				} else {
					none++
				}
			}
		}
	})
	if taken < 10000 || none < 50000 {
		t.Error("the test's bytes are of one sort:", taken, none)
	}
	for seed := range uint64(20000) {
		wantOnlyItsBytes(t, string(someBytes(seed, 12)), 0)
	}
}

// madeSummaries hands out summaries of modules that are made, and ones that are thrown together.
func madeSummaries(t *testing.T, seeds uint64, do func(s impl.Summary)) {
	t.Helper()
	for _, amiss := range []int{0, 0, 30} {
		madeModules(t, seeds, amiss, func(m impl.Module, imports []impl.Summary, src string) {
			_, s := impl.CheckModule("main", m, imports)
			do(s)
			for _, s := range imports {
				do(s)
			}
		})
	}
	for seed := range seeds {
		m := &handMaker{typeMaker{bytes: someBytes(seed+4040404, 600)}}
		for _, s := range m.summaries() {
			do(s)
			// with what is reached alone
			s.Types = slices.DeleteFunc(slices.Clone(s.Types), func(n impl.Named) bool {
				return !slices.ContainsFunc(s.Exports, func(e impl.Named) bool { return slices.Contains(impl.Reach(s.Types, e.Type), n.Name) })
			})
			do(s)
		}
	}
}

func TestSummariesAsTheDocumentsWordsTell(t *testing.T) {
	right, bad, wrong, types := 0, 0, 0, 0
	madeSummaries(t, 600, func(s impl.Summary) {
		ok, bytes := summaryOkByWords(s), ""
		if ok {
			bytes = rawSummary(s)
		}
		if impl.SummaryOk(s) != ok || impl.PutSummary(s) != bytes || impl.SummaryKey(s) != impl.Key(bytes) || impl.SummaryText(s) != summaryTextByWords(s) {
			t.Fatalf("SummaryOk %t, PutSummary %q, SummaryText\n%s", impl.SummaryOk(s), impl.PutSummary(s), impl.SummaryText(s))
		}
		got, read := impl.GetSummary(bytes)
		if read != ok || ok && !sameSummary(got, s) {
			t.Fatalf("GetSummary(%q) = %+v, %t", bytes, got, read)
		}
		switch {
		case !ok:
			wrong++
		case s.Bad:
			bad++
		default:
			right++
			types += len(s.Types)
		}
	})
	if right < 1000 || bad < 300 || wrong < 300 || types < 1000 {
		t.Error("the test's summaries are of one sort:", right, bad, wrong, types)
	}
}

// What CheckModule tells of a module by right summaries is a summary; by those alone it is told again.
func TestWhatIsToldOfAModuleIsASummary(t *testing.T) {
	madeModules(t, 800, 20, func(m impl.Module, imports []impl.Summary, src string) {
		if slices.ContainsFunc(imports, func(s impl.Summary) bool { return !impl.SummaryOk(s) }) {
			return
		}
		wrong, s := impl.CheckModule("main", m, imports)
		if !impl.SummaryOk(s) {
			t.Fatalf("what is told of\n%sis no summary:\n%s", src, impl.SummaryText(s))
		}
		var again []impl.Summary
		for _, s := range imports {
			of, ok := impl.GetSummary(impl.PutSummary(s))
			if !ok {
				t.Fatalf("no summary is\n%s", impl.SummaryText(s))
			}
			again = append(again, of)
		}
		wrongAgain, sAgain := impl.CheckModule("main", m, again)
		if !slices.Equal(wrong, wrongAgain) || impl.PutSummary(s) != impl.PutSummary(sAgain) {
			t.Fatalf("by summaries that came back from their bytes\n%sis told otherwise", src)
		}
	})
}

func TestNoOtherBytesAreASummarys(t *testing.T) {
	taken, none := 0, 0
	madeSummaries(t, 250, func(s impl.Summary) {
		bytes := impl.PutSummary(s)
		if bytes == "" {
			bytes = rawSummary(s)
		}
		m := &typeMaker{bytes: someBytes(uint64(len(bytes))*17+uint64(taken+none), 200)}
		for range 6 {
			other := changed(m, bytes)
			got, ok := impl.GetSummary(other)
			if !ok {
				none++
				if got.Name != "" || got.Bad || len(got.Types)+len(got.Exports) > 0 {
					t.Fatalf("GetSummary(%q) = %+v, false", other, got)
				}
				continue
			}
			taken++
			if !summaryOkByWords(got) || rawSummary(got) != other || impl.PutSummary(got) != other {
				t.Fatalf("GetSummary(%q) = %+v, whose bytes are %q", other, got, impl.PutSummary(got))
			}
		}
	})
	if taken < 300 || none < 3000 {
		t.Error("the test's bytes are of one sort:", taken, none)
	}
}

func TestNarrowAsTheDocumentsWordsTell(t *testing.T) {
	less, same := 0, 0
	seed := uint64(0)
	madeSummaries(t, 300, func(s impl.Summary) {
		seed++
		m := &typeMaker{bytes: someBytes(seed, 50)}
		var all, some []string
		for _, n := range s.Exports {
			all = append(all, n.Name)
			if m.next(2) == 0 {
				some = append(some, n.Name)
			}
		}
		some = append(some, []string{"", "zz", "let", "main.T"}[m.next(4)])
		some = append(some, some[:m.next(len(some))]...)
		slices.Reverse(some)
		if got := impl.Narrow(s, all); !sameSummary(got, s) {
			t.Fatalf("narrowed to all its names\n%sis\n%s", impl.SummaryText(s), impl.SummaryText(got))
		}
		got := impl.Narrow(s, some)
		if !sameSummary(got, narrowByWords(s, some)) || impl.SummaryOk(got) != impl.SummaryOk(s) {
			t.Fatalf("narrowed to %q\n%sis\n%s", some, impl.SummaryText(s), impl.SummaryText(got))
		}
		if again := impl.Narrow(got, some); !sameSummary(again, got) {
			t.Fatalf("narrowed to %q twice\n%sis\n%s", some, impl.SummaryText(s), impl.SummaryText(again))
		}
		if len(got.Types) < len(s.Types) {
			less++
		} else {
			same++
		}
	})
	if less < 200 || same < 200 {
		t.Error("the test's summaries are of one sort:", less, same)
	}
}

// wantNewSummaries calls each function of the chapter with lists that have room behind them.
func wantNewSummaries(t *testing.T, s impl.Summary, names []string) {
	t.Helper()
	s = roomySummaries([]impl.Summary{s})[0]
	names = append(plainNames(names), "spare")[:len(names)]
	all := func() any { return wholeModule(reflect.ValueOf([]any{s, names})).Interface() }
	before := all()
	given := newMemory()
	given.addSummary(s)
	given.addNames(names)
	look := func(what string, add func(a *memoryOf)) {
		answer := newMemory()
		add(answer)
		wantNewMemory(t, what, answer, given)
	}
	impl.SummaryOk(s)
	look("Narrow", func(a *memoryOf) { a.addSummary(impl.Narrow(s, names)) })
	look("PutSummary", func(a *memoryOf) {
		a.texts = append(a.texts, impl.PutSummary(s), impl.SummaryText(s), impl.SummaryKey(s))
	})
	bytes := impl.PutSummary(s)
	given.texts = append(given.texts, bytes)
	look("GetSummary", func(a *memoryOf) {
		got, _ := impl.GetSummary(bytes)
		a.addSummary(got)
	})
	for _, n := range append(slices.Clone(s.Types), s.Exports...) {
		bytes := impl.PutType(n.Type)
		given.texts = append(given.texts, bytes)
		look("GetType", func(a *memoryOf) {
			got, _ := impl.GetType(bytes, 0)
			a.addType(got)
		})
	}
	if !reflect.DeepEqual(all(), before) {
		t.Fatalf("written into the arguments of\n%s", impl.SummaryText(s))
	}
}

func TestNothingIsWrittenIntoSummariesAndAnswersAreNew(t *testing.T) {
	count := 0
	madeSummaries(t, 60, func(s impl.Summary) {
		count++
		names := []string{"zz"}
		for i, n := range s.Exports {
			if i%2 == count%2 {
				names = append(names, n.Name)
			}
		}
		wantNewSummaries(t, s, names)
	})
	for _, s := range rightSummaries(t) {
		wantNewSummaries(t, s, []string{"a", "f", "n1000"})
	}
	for _, s := range wrongSummaries(t) {
		wantNewSummaries(t, s, []string{"a"})
	}
	// one list in many places
	shared := recordT("x", nameT("m.T"))
	twice := impl.Summary{Name: "m", Types: []impl.Named{{Name: "m.T", Type: fnT(shared, shared)}, {Name: "m.U", Type: shared}}, Exports: []impl.Named{{Name: "v", Type: fnT(shared, shared)}, {Name: "w", Type: nameT("m.U")}}}
	for _, s := range []impl.Summary{twice, {Name: "let", Types: twice.Types, Exports: twice.Types}} {
		answer := newMemory()
		answer.addSummary(impl.Narrow(s, []string{"v", "w"}))
		wantNewMemory(t, "Narrow", answer, newMemory())
	}
	x := manyShared(99)
	s := impl.Summary{Name: "m", Types: []impl.Named{{Name: "m.T", Type: x}}, Exports: []impl.Named{{Name: "v", Type: x}}}
	got := impl.Narrow(s, nil)
	wantOwnLists(t, "Narrow", recordT("a b", got.Types[0].Type, got.Exports[0].Type), x)
}

func TestAnySummaryIsAnswered(t *testing.T) {
	call := func(s impl.Summary, names []string) {
		impl.SummaryOk(s)
		impl.SummaryText(s)
		impl.SummaryKey(s)
		impl.GetSummary(impl.PutSummary(s))
		impl.Narrow(s, names)
	}
	many := make([]string, 100000)
	for _, s := range append(summariesOfWrongTypes(t), rightSummaries(t)...) {
		call(s, nil)
		call(s, many)
		s.Types, s.Exports = s.Exports, s.Types
		call(s, []string{"a", "x.T"})
	}
	huge := impl.Summary{Name: "x", Exports: numbered(100000, nameT("x.T")), Types: numbered(100000, recordT("a", nameT("x.U")))}
	call(huge, many)
	// types that no memory holds are summaries all the same
	great := impl.Summary{Name: "x", Types: []impl.Named{{Name: "x.T", Type: greatType(nameT("x.T"), impl.MaxDeep)}}, Exports: []impl.Named{{Name: "a", Type: greatType(nameT("x.T"), impl.MaxDeep)}, {Name: "b", Type: intT}}}
	if !impl.SummaryOk(great) || len(impl.Narrow(great, []string{"b"}).Types) != 0 {
		t.Error("a summary with a type that no memory holds")
	}
	call(great, []string{"a"})
	wantGreat(t, "Narrow", impl.Narrow(great, []string{"a"}).Types[0].Type, nameT("x.T"), impl.MaxDeep)
	impl.PutType(great.Types[0].Type)
	for seed := range uint64(3000) {
		s := string(someBytes(seed, 40))
		for _, i := range []int{0, 1, 39, 40, 41, -1, math.MinInt, math.MaxInt} {
			impl.GetType(s, i)
		}
		impl.GetSummary(s)
		impl.GetSummary("\x01x\x00" + s)
	}
	for _, unit := range []string{"\x05\x01\x01a", "\x06\x02\x00", "\x07\x02", "\x04", "\xff", "\x06\xff\x93\xeb\xdc\x03", "\x00"} {
		s := strings.Repeat(unit, 200000)
		impl.GetType(s, 0)
		impl.GetSummary(s)
		impl.GetSummary("\x01x\x00\x00\x01\x01a" + s)
	}
}

func FuzzSummary(f *testing.F) {
	f.Add("\x05\x01\x01a\x04\x03m.T", 0, someBytes(1, 600))
	f.Add("\x01x\x00\x01\x03x.T\x06\x01\x00\x01\x01a\x04\x03x.T", 4, someBytes(2, 600))
	f.Fuzz(func(t *testing.T, s string, i int, bytes []byte) {
		if got, behind := impl.GetType(s, i); behind >= 0 {
			if i < 0 || behind > len(s) || impl.PutType(got) != s[i:behind] {
				t.Fatalf("GetType(%q, %d) = %s, %d", s, i, impl.TypeText(got), behind)
			}
		}
		if got, ok := impl.GetSummary(s); ok && (impl.PutSummary(got) != s || !summaryOkByWords(got)) {
			t.Fatalf("GetSummary(%q) = %+v", s, got)
		}
		m := &handMaker{typeMaker{bytes: bytes[:min(len(bytes), 800)]}}
		x := m.make(4)
		if impl.PutType(x) != putTypeByWords(x) {
			t.Fatalf("PutType(%+v) = %q", x, impl.PutType(x))
		}
		for _, of := range m.summaries() {
			if impl.SummaryOk(of) != summaryOkByWords(of) || !sameSummary(impl.Narrow(of, []string{"a", "f"}), narrowByWords(of, []string{"a", "f"})) {
				t.Fatalf("%+v", of)
			}
			if p := impl.PutSummary(of); p != "" {
				if got, ok := impl.GetSummary(p); !ok || !sameSummary(got, of) || p != rawSummary(of) {
					t.Fatalf("%q of %+v", p, of)
				}
			}
		}
	})
}
