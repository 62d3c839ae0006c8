package tests

import (
	"math"
	"slices"
	"strconv"
	"strings"
	"testing"

	"loop.example/g00276/impl"
)

// wantBytes holds a type against its bytes, both ways, and with other bytes around.
func wantBytes(t *testing.T, x impl.Type, bytes string) {
	t.Helper()
	if got := impl.PutType(x); got != bytes {
		t.Errorf("PutType(%s) = %q, want %q", impl.TypeText(x), got, bytes)
	}
	for _, around := range [][2]string{{"", ""}, {"", "\x00"}, {"\x05", "\x80"}, {"abc\xff", "\x01a"}} {
		at := len(around[0])
		got, behind := impl.GetType(around[0]+bytes+around[1], at)
		if behind != at+len(bytes) || !sameType(got, x) {
			t.Errorf("GetType(%q, %d) = %+v, %d", around[0]+bytes+around[1], at, got, behind)
		}
	}
}

func wantNoType(t *testing.T, what, s string, i int) {
	t.Helper()
	if got, behind := impl.GetType(s, i); behind != -1 || !isZeroType(got) {
		t.Errorf("%s: GetType(%.60q, %d) = %+v, %d", what, s, i, got, behind)
	}
}

func TestBytesOfEachKindOfType(t *testing.T) {
	wantBytes(t, intT, "\x00")
	wantBytes(t, textT, "\x01")
	wantBytes(t, boolT, "\x02")
	wantBytes(t, anyT, "\x03")
	wantBytes(t, nameT("T"), "\x04\x01T")
	wantBytes(t, nameT("m.T"), "\x04\x03m.T")
	wantBytes(t, nameT("abcdefghijkl.ABCDEFGHIJKL"), "\x04\x19abcdefghijkl.ABCDEFGHIJKL")
	wantBytes(t, recordT(""), "\x05\x00")
	wantBytes(t, recordT("a", intT), "\x05\x01\x01a\x00")
	wantBytes(t, recordT("a bc", anyT, textT), "\x05\x02\x01a\x03\x02bc\x01")
	wantBytes(t, fnT(intT), "\x06\x01\x00")
	wantBytes(t, fnT(intT, textT, boolT), "\x06\x03\x00\x01\x02")
	wantBytes(t, unionT(intT, textT), "\x07\x02\x00\x01")
	wantBytes(t, unionT(boolT, intT, textT), "\x07\x03\x02\x00\x01")
	// types within types
	wantBytes(t, recordT("a b", recordT(""), fnT(nameT("T"), unionT(intT, textT))), "\x05\x02\x01a\x05\x00\x01b\x06\x02\x04\x01T\x07\x02\x00\x01")
	wantBytes(t, fnT(fnT(fnT(recordT("x", anyT)))), "\x06\x01\x06\x01\x06\x01\x05\x01\x01x\x03")
	wantBytes(t, unionT(fnT(anyT), nameT("a.T"), recordT("z", boolT)), "\x07\x03\x06\x01\x03\x04\x03a.T\x05\x01\x01z\x02")
	wantBytes(t, impl.Type{Kind: impl.TyRecord, Names: []string{}, Kids: []impl.Type{}}, "\x05\x00")
	for _, c := range rightTypes {
		wantBytes(t, c.t, putTypeByWords(c.t))
	}
}

func TestBytesOfWideTypes(t *testing.T) {
	for _, count := range []int{1, 2, 127, 128, 129, 300, 16383, 16384, 20000} {
		fn := impl.Type{Kind: impl.TyFn}
		record := impl.Type{Kind: impl.TyRecord}
		var fields strings.Builder
		for i := range count {
			fn.Kids = append(fn.Kids, intT)
			name := "n" + strconv.Itoa(100000+i)
			record.Names = append(record.Names, name)
			record.Kids = append(record.Kids, boolT)
			fields.WriteString("\x07" + name + "\x02")
		}
		wantBytes(t, fn, "\x06"+impl.PutNum(count)+strings.Repeat("\x00", count))
		wantBytes(t, record, "\x05"+impl.PutNum(count)+fields.String())
	}
}

func TestBytesOfWrongTypes(t *testing.T) {
	for _, c := range wrongTypes {
		for _, x := range listT(c.t, fnT(c.t), fnT(intT, c.t, intT), recordT("a", c.t)) {
			if got := impl.PutType(x); got != "" {
				t.Errorf("%s: %q", c.what, got)
			}
		}
	}
	for _, name := range wrongNames {
		if got := impl.PutType(nameT(name)); got != "" {
			t.Errorf("of the name %q: %q", name, got)
		}
		wantNoType(t, "a name that is none", "\x04"+impl.PutText(name), 0)
	}
	for i, x := range withinItself() {
		if got := impl.PutType(x); got != "" {
			t.Error("of what is within itself", i)
		}
	}
}

func TestBytesAtMaxDeep(t *testing.T) {
	for open, wrap := range map[string]func(x impl.Type) impl.Type{
		"\x06\x01":      func(x impl.Type) impl.Type { return fnT(x) },
		"\x06\x02\x00":  func(x impl.Type) impl.Type { return fnT(intT, x) },
		"\x05\x01\x01a": func(x impl.Type) impl.Type { return recordT("a", x) },
	} {
		wantBytes(t, deepened(boolT, impl.MaxDeep, wrap), strings.Repeat(open, impl.MaxDeep)+"\x02")
		if impl.PutType(deepened(boolT, impl.MaxDeep+1, wrap)) != "" {
			t.Error("one more than MaxDeep has bytes")
		}
		for _, times := range []int{impl.MaxDeep + 1, impl.MaxDeep + 2, 100, 10000000} {
			wantNoType(t, "deeper than MaxDeep", strings.Repeat(open, times)+"\x02", 0)
			wantNoType(t, "deeper than MaxDeep, without an end", strings.Repeat(open, times), 0)
		}
		// from a place within, it is no deeper than what stands there
		s := strings.Repeat(open, impl.MaxDeep+1) + "\x02"
		if got, behind := impl.GetType(s, len(open)); behind != len(s) || !sameType(got, deepened(boolT, impl.MaxDeep, wrap)) {
			t.Error("from a place within", behind)
		}
	}
	open := "\x07\x02\x00\x05\x01\x01a"
	wrap := func(x impl.Type) impl.Type { return unionT(intT, recordT("a", x)) }
	wantBytes(t, deepened(boolT, impl.MaxDeep/2, wrap), strings.Repeat(open, impl.MaxDeep/2)+"\x02")
	wantNoType(t, "a union with one more than MaxDeep", strings.Repeat(open, impl.MaxDeep/2)+"\x06\x01\x02", 0)
}

func TestPlacesOfTypes(t *testing.T) {
	s := "\x00\x05\x01\x01a\x01"
	for i, want := range map[int]int{0: 1, 1: 6, 2: 3, 3: 4, 5: 6} {
		if _, behind := impl.GetType(s, i); behind != want {
			t.Errorf("at %d: %d, want %d", i, behind, want)
		}
	}
	for _, i := range []int{4, len(s), len(s) + 1, len(s) + 1000, -1, -2, math.MinInt, math.MaxInt} {
		wantNoType(t, "a place at which nothing is", s, i)
	}
	for _, i := range []int{0, 1, -1, math.MinInt, math.MaxInt} {
		wantNoType(t, "nothing", "", i)
	}
	// one behind the other, up to the end of the text
	var all strings.Builder
	var types []impl.Type
	for seed := range uint64(3000) {
		m := &typeMaker{bytes: someBytes(seed, 60)}
		if x := m.make(3); impl.TypeOk(x) {
			types = append(types, x)
			all.WriteString(impl.PutType(x))
		}
	}
	at := 0
	for _, x := range types {
		got, behind := impl.GetType(all.String(), at)
		if behind < 0 || !sameType(got, x) {
			t.Fatalf("at %d: %s, %d, want %s", at, impl.TypeText(got), behind, impl.TypeText(x))
		}
		at = behind
	}
	if at != all.Len() || len(types) < 1000 {
		t.Error("they end at", at, len(types))
	}
	wantNoType(t, "the end of the text", all.String(), at)
}

func TestBytesOfNoType(t *testing.T) {
	for kind := 8; kind < 256; kind++ {
		wantNoType(t, "another kind", string([]byte{byte(kind)}), 0)
		wantNoType(t, "another kind, with kids", string([]byte{byte(kind), 1, 0}), 0)
		wantNoType(t, "another kind within", string([]byte{6, 1, byte(kind)}), 0)
	}
	for what, list := range map[string][]string{
		"cut off":                        {"", "\x04", "\x04\x01", "\x04\x02T", "\x05", "\x05\x01", "\x05\x01\x01", "\x05\x01\x01a", "\x05\x02\x01a\x00", "\x05\x02\x01a\x00\x01b", "\x06", "\x06\x01", "\x06\x02\x00", "\x07", "\x07\x02", "\x07\x02\x00", "\x06\x01\x06\x01"},
		"a name that is none":            {"\x04\x00", "\x04\x011", "\x04\x03let", "\x04\x02a.", "\x04\x02.a", "\x04\x05a.b.c", "\x04\x0dabcdefghijklm", "\x04\x01\x00", "\x04\x01\xff", "\x04\x07int.int"},
		"a field's name that is none":    {"\x05\x01\x00\x00", "\x05\x01\x02in\x00", "\x05\x01\x03a.b\x00", "\x05\x01\x011\x00", "\x05\x01\x0dabcdefghijklm\x00", "\x05\x01\x01\x00\x00"},
		"fields out of order":            {"\x05\x02\x01b\x00\x01a\x00", "\x05\x02\x01a\x00\x01a\x00", "\x05\x02\x01a\x00\x01a\x01", "\x05\x03\x01a\x00\x01c\x00\x01b\x00", "\x05\x02\x01a\x00\x01B\x00", "\x05\x02\x02ab\x00\x01a\x00"},
		"a function of nothing":          {"\x06\x00", "\x06\x00\x00", "\x06\x01\x06\x00"},
		"a union of fewer than two":      {"\x07\x00", "\x07\x01\x00", "\x07\x00\x00\x01"},
		"a union out of order":           {"\x07\x02\x01\x00", "\x07\x02\x00\x00", "\x07\x03\x00\x02\x01", "\x07\x02\x04\x01b\x04\x01a", "\x07\x02\x05\x00\x05\x01\x01a\x00", "\x07\x02\x06\x02\x03\x00\x06\x01\x00"},
		"a union with any or a union":    {"\x07\x02\x03\x00", "\x07\x02\x00\x03", "\x07\x02\x02\x07\x02\x00\x01", "\x07\x02\x07\x02\x02\x00\x01"},
		"a number that could be shorter": {"\x04\x81\x00T", "\x05\x80\x00", "\x05\x81\x00\x01a\x00", "\x05\x01\x81\x00a\x00", "\x06\x81\x00\x00", "\x06\x82\x80\x00\x00\x01", "\x07\x82\x00\x00\x01", "\x04\x83\x80\x80\x80\x00m.T"},
		"a number that is too great":     {"\x04\x80\x94\xeb\xdc\x03T", "\x06\x80\x94\xeb\xdc\x03\x00", "\x06\xff\xff\xff\xff\xff\x01\x00"},
		"more kids than there are bytes": {"\x06\xff\x93\xeb\xdc\x03", "\x06\xff\x93\xeb\xdc\x03" + strings.Repeat("\x00", 100000), "\x07\xff\x93\xeb\xdc\x03\x00\x01", "\x05\xff\x93\xeb\xdc\x03\x01a\x00\x01b\x00", "\x04\xff\x93\xeb\xdc\x03T"},
	} {
		for _, s := range list {
			wantNoType(t, what, s, 0)
			wantNoType(t, what, "\x00"+s, 1)
			wantNoType(t, what+", within", "\x06\x01"+s, 0)
			wantNoType(t, what+", within a record", "\x05\x01\x01a"+s, 0)
		}
	}
}

// chained are types of which each leads to the next one, and the last one to int.
func chained(count int) []impl.Named {
	var list []impl.Named
	for i := range count {
		x := recordT("n", nameT("m.T"+strconv.Itoa(1001+i)))
		if i == count-1 {
			x = intT
		}
		list = append(list, impl.Named{Name: "m.T" + strconv.Itoa(1000+i), Type: x})
	}
	return list
}

func rightSummaries(t *testing.T) []impl.Summary {
	m := library(t, "m", "type T = {n: T | bool}\ntype U = int\nlet v = 1\nfn f(x: T): U = 2")
	return []impl.Summary{
		{Name: "x"},
		dark("x"),
		dark("abcdefghijkl"),
		m,
		{Name: "x", Types: envFrom(t, "m.T = m.U", "m.U = {a: m.T}", "n.V = int"), Exports: envFrom(t, "a = m.T", "b = n.V | text")},
		{Name: "x", Types: envFrom(t, "x.T = x.T"), Exports: envFrom(t, "a = x.T")},
		{Name: "x", Types: chained(impl.MaxDefs), Exports: envFrom(t, "a = m.T1000")},
		{Name: "x", Exports: numbered(impl.MaxDefs, textT)},
		{Name: "x", Types: envFrom(t, "x.T = (any) -> {}"), Exports: numbered(impl.MaxDefs, typeFrom(t, "(int) -> x.T"))},
		{Name: "x", Exports: []impl.Named{{Name: "a", Type: deepened(intT, impl.MaxDeep, func(x impl.Type) impl.Type { return fnT(x) })}}},
		library(t, "main", "import m\ntype T = m.T | text\nlet a = m.f\nlet b: T = \"\"\nfn g(x: {y: T}): (m.U) -> T = g(x)", m),
	}
}

func wrongSummaries(t *testing.T) map[string]impl.Summary {
	list := map[string]impl.Summary{
		"the zero value":                         {},
		"a Bad one without a name":               {Bad: true},
		"no name":                                {Name: "", Exports: envFrom(t, "a = int")},
		"a word for its name":                    dark("let"),
		"a name with a dot":                      {Name: "m.n"},
		"a name of 13 bytes":                     {Name: "abcdefghijklm"},
		"a Bad one with an export":               {Name: "x", Bad: true, Exports: envFrom(t, "a = int")},
		"a Bad one with a type":                  {Name: "x", Bad: true, Types: envFrom(t, "x.T = int")},
		"a Bad one with both":                    {Name: "x", Bad: true, Types: envFrom(t, "x.T = int"), Exports: envFrom(t, "a = x.T")},
		"a type that nothing reaches":            {Name: "x", Types: envFrom(t, "x.T = int"), Exports: envFrom(t, "a = int")},
		"a type without any export":              {Name: "x", Types: envFrom(t, "x.T = int")},
		"a type that only itself reaches":        {Name: "x", Types: envFrom(t, "x.S = int", "x.T = {a: x.T}"), Exports: envFrom(t, "a = x.S")},
		"types that reach only each other":       {Name: "x", Types: envFrom(t, "x.S = x.T", "x.T = {a: x.S}"), Exports: envFrom(t, "a = int")},
		"a name that is not one of Types":        {Name: "x", Exports: envFrom(t, "a = x.T")},
		"a name deep within that is not there":   {Name: "x", Types: envFrom(t, "x.T = {a: (int) -> {b: x.U | int}}"), Exports: envFrom(t, "a = x.T")},
		"a plain name that is reached":           {Name: "x", Exports: envFrom(t, "a = T")},
		"a plain name among Types":               {Name: "x", Types: envFrom(t, "T = int"), Exports: envFrom(t, "a = T")},
		"a plain name among Types, behind a dot": {Name: "x", Types: envFrom(t, "T = int", "x.T = T"), Exports: envFrom(t, "a = x.T")},
		"an export with a dot":                   {Name: "x", Exports: envFrom(t, "x.a = int")},
		"an export with a dot among others":      {Name: "x", Exports: envFrom(t, "a = int", "b.c = int", "d = int")},
		"Types out of order":                     {Name: "x", Types: envFrom(t, "x.T = int", "x.S = int"), Exports: envFrom(t, "a = x.T", "b = x.S")},
		"Types of which two are alike":           {Name: "x", Types: envFrom(t, "x.T = int", "x.T = int"), Exports: envFrom(t, "a = x.T")},
		"Exports out of order":                   {Name: "x", Exports: envFrom(t, "b = int", "a = int")},
		"Exports of which two are alike":         {Name: "x", Exports: envFrom(t, "a = int", "a = int")},
		"more Exports than MaxDefs":              {Name: "x", Exports: numbered(impl.MaxDefs+1, intT)},
		"more Types than MaxDefs":                {Name: "x", Types: chained(impl.MaxDefs + 1), Exports: envFrom(t, "a = m.T1000")},
		"an export that is a word":               {Name: "x", Exports: []impl.Named{{Name: "in", Type: intT}}},
		"an export without a name":               {Name: "x", Exports: []impl.Named{{Type: intT}}},
		"a type with two dots":                   {Name: "x", Types: []impl.Named{{Name: "a.b.c", Type: intT}}, Exports: []impl.Named{{Name: "a", Type: nameT("a.b.c")}}},
	}
	return list
}

// summariesOfWrongTypes have one that is none for an export, or among their Types.
func summariesOfWrongTypes(t *testing.T) []impl.Summary {
	var list []impl.Summary
	types := withinItself()
	for _, c := range wrongTypes {
		types = append(types, c.t)
	}
	for _, x := range types {
		list = append(list,
			impl.Summary{Name: "x", Exports: []impl.Named{{Name: "a", Type: x}}},
			impl.Summary{Name: "x", Types: []impl.Named{{Name: "x.T", Type: x}}, Exports: envFrom(t, "a = x.T")})
	}
	return list
}

func wantNoSummary(t *testing.T, what, s string) {
	t.Helper()
	if got, ok := impl.GetSummary(s); ok || got.Name != "" || got.Bad || len(got.Types)+len(got.Exports) > 0 {
		t.Errorf("%s: GetSummary(%.80q) = %+v, %t", what, s, got, ok)
	}
}

func TestRightSummariesAndTheirBytes(t *testing.T) {
	for _, s := range rightSummaries(t) {
		if !impl.SummaryOk(s) {
			t.Fatalf("not SummaryOk: %s", impl.SummaryText(s))
		}
		bytes := impl.PutSummary(s)
		if bytes != rawSummary(s) {
			t.Errorf("PutSummary of\n%s= %q", impl.SummaryText(s), bytes)
		}
		if got, ok := impl.GetSummary(bytes); !ok || !sameSummary(got, s) {
			t.Errorf("GetSummary of the bytes of\n%s= %+v, %t", impl.SummaryText(s), got, ok)
		}
		if got := impl.SummaryKey(s); got != impl.Key(bytes) {
			t.Errorf("SummaryKey = %s", got)
		}
	}
	for want, s := range map[string]impl.Summary{
		"\x01x\x00\x00\x00":                            {Name: "x"},
		"\x01x\x01\x00\x00":                            dark("x"),
		"\x01x\x00\x00\x02\x01a\x00\x02bc\x06\x01\x03": {Name: "x", Exports: envFrom(t, "a = int", "bc = () -> any")},
		"\x01m\x00\x02\x03m.T\x07\x02\x02\x04\x03m.U\x03m.U\x00\x01\x01f\x04\x03m.T": {Name: "m", Types: envFrom(t, "m.T = bool | m.U", "m.U = int"), Exports: envFrom(t, "f = m.T")},
	} {
		if got := impl.PutSummary(s); got != want {
			t.Errorf("PutSummary = %q, want %q", got, want)
		}
	}
}

func TestWrongSummaries(t *testing.T) {
	for what, s := range wrongSummaries(t) {
		if impl.SummaryOk(s) {
			t.Errorf("SummaryOk of %s", what)
		}
		if got := impl.PutSummary(s); got != "" {
			t.Errorf("PutSummary of %s = %q", what, got)
		}
		if got := impl.SummaryKey(s); got != impl.Key("") {
			t.Errorf("SummaryKey of %s = %s", what, got)
		}
		wantNoSummary(t, what, rawSummary(s))
		for _, names := range [][]string{nil, {"a"}, {"a", "b", "d"}} {
			if got := impl.Narrow(s, names); !sameSummary(got, s) {
				t.Errorf("Narrow of %s = %+v", what, got)
			}
		}
	}
	for i, s := range summariesOfWrongTypes(t) {
		if impl.SummaryOk(s) || impl.PutSummary(s) != "" || impl.SummaryKey(s) != impl.Key("") {
			t.Error("with a type that is none", i)
		}
		got := impl.Narrow(s, nil)
		if got.Name != "x" || got.Bad || len(got.Types) != len(s.Types) || len(got.Exports) != 1 || !sameAllTheWay(listT(got.Exports[0].Type), listT(s.Exports[0].Type)) {
			t.Error("Narrow of one with a type that is none", i)
		}
		if len(s.Types) > 0 && !sameAllTheWay(listT(got.Types[0].Type), listT(s.Types[0].Type)) {
			t.Error("Narrow of one with a type that is none among Types", i)
		}
	}
}

func TestBytesOfNoSummary(t *testing.T) {
	whole := impl.PutSummary(library(t, "m", "type T = {n: T | bool}\ntype U = int\nlet v = 1\nfn f(x: T): U = 2"))
	for cut := range len(whole) {
		wantNoSummary(t, "cut off", whole[:cut])
	}
	for b := range 256 {
		wantNoSummary(t, "with a byte behind", whole+string([]byte{byte(b)}))
		if b > 1 {
			wantNoSummary(t, "neither Bad nor not", "\x01x"+string([]byte{byte(b)})+"\x00\x00")
		}
	}
	for what, list := range map[string][]string{
		"nothing":                        {"", "\x00", "\x00\x00\x00\x00", "\x00\x01\x00\x00"},
		"no name":                        {"\x011\x00\x00\x00", "\x03let\x00\x00\x00", "\x03m.n\x01\x00\x00", "\x0dabcdefghijklm\x01\x00\x00"},
		"a Bad one that tells more":      {"\x01x\x01\x00\x01\x01a\x00", "\x01x\x01\x01\x03x.T\x00\x00", "\x01x\x01\x01\x03x.T\x00\x01\x01a\x04\x03x.T"},
		"a number that could be shorter": {"\x81\x00x\x00\x00\x00", "\x01x\x00\x80\x00\x00", "\x01x\x00\x00\x80\x00", "\x01x\x00\x00\x81\x00\x01a\x00", "\x01x\x00\x00\x01\x81\x00a\x00", "\x01x\x80\x00\x00\x00", "\x01x\x81\x00\x00\x00"},
		"more than there are":            {"\x01x\x00\x00\xff\x93\xeb\xdc\x03", "\x01x\x00\xff\x93\xeb\xdc\x03\x03x.T\x00", "\x01x\x00\x00\x02\x01a\x00"},
		"types that are none":            {"\x01x\x00\x00\x01\x01a\x08", "\x01x\x00\x00\x01\x01a\x07\x02\x01\x00", "\x01x\x00\x01\x03x.T\x06\x00\x01\x01a\x04\x03x.T"},
	} {
		for _, s := range list {
			wantNoSummary(t, what, s)
		}
	}
	// very many, none of which is wrong by itself
	var many strings.Builder
	many.WriteString("\x01x\x00\x00" + impl.PutNum(100000))
	for i := range 100000 {
		many.WriteString("\x07n" + strconv.Itoa(100000+i) + "\x00")
	}
	wantNoSummary(t, "very many exports", many.String())
}

func TestTextsOfSummaries(t *testing.T) {
	m := library(t, "m", "type T = {n: T | bool}\ntype U = int\nlet v = 1\nfn f(x: T): U = 2")
	for want, s := range map[string]impl.Summary{
		"module x\n":     {Name: "x"},
		"module x bad\n": dark("x"),
		"module m\ntype m.T = {n: bool | m.T}\ntype m.U = int\nf: (m.T) -> m.U\nv: int\n": m,
		"module x\na: () -> (int | text)\nb: (() -> int) | text\n":                        {Name: "x", Exports: envFrom(t, "a = () -> (int | text)", "b = (() -> int) | text")},
		"module \n":                              {},
		"module  bad\n":                          {Bad: true},
		"module x bad\ntype x.T = int\na: x.T\n": {Name: "x", Bad: true, Types: envFrom(t, "x.T = int"), Exports: envFrom(t, "a = x.T")},
		"module a b\ntype  = \ntype T = any\n: \nb: \n": {Name: "a b", Types: []impl.Named{{Type: fnT()}, {Name: "T", Type: anyT}}, Exports: []impl.Named{{Type: unionT()}, {Name: "b", Type: withinItself()[0]}}},
		"module x\nb: int\na: text\na: text\n":          {Name: "x", Exports: envFrom(t, "b = int", "a = text", "a = text")},
	} {
		if got := impl.SummaryText(s); got != want {
			t.Errorf("SummaryText = %q, want %q", got, want)
		}
	}
}

func TestKeysOfSummaries(t *testing.T) {
	keys := map[string]string{}
	for _, s := range rightSummaries(t) {
		keys[impl.SummaryKey(s)] = impl.SummaryText(s)
	}
	if len(keys) != len(rightSummaries(t)) {
		t.Error("two summaries have one key")
	}
	if got := impl.SummaryKey(dark("x")); got != impl.Key("\x01x\x01\x00\x00") || len(got) != 16 {
		t.Error(got)
	}
	if impl.SummaryKey(impl.Summary{}) != "cbf29ce484222325" {
		t.Error("the key of what is no summary")
	}
}

// wantNarrow tells the types and exports that are left.
func wantNarrow(t *testing.T, s impl.Summary, names, types, exports string) {
	t.Helper()
	got := impl.Narrow(s, strings.Fields(names))
	var left, told []string
	for _, n := range got.Types {
		left = append(left, n.Name)
	}
	for _, n := range got.Exports {
		told = append(told, n.Name)
		if was, _ := impl.Lookup(s.Exports, n.Name); !sameType(was, n.Type) {
			t.Errorf("%s is another one", n.Name)
		}
	}
	if strings.Join(left, " ") != types || strings.Join(told, " ") != exports || got.Name != s.Name || got.Bad != s.Bad || !impl.SummaryOk(got) {
		t.Errorf("Narrow to %q is\n%swant %q and %q", names, impl.SummaryText(got), types, exports)
	}
}

func TestNarrow(t *testing.T) {
	s := impl.Summary{
		Name:    "x",
		Types:   envFrom(t, "x.A = int", "x.B = {a: x.A}", "x.C = {c: x.C, b: x.B} | bool", "x.D = (x.D) -> text", "y.E = int | text"),
		Exports: envFrom(t, "a = x.A", "b = {b: x.B}", "c = x.C | int", "d = x.D", "e = y.E | x.A", "f = int"),
	}
	if !impl.SummaryOk(s) {
		t.Fatal("the test's summary is none")
	}
	wantNarrow(t, s, "a b c d e f", "x.A x.B x.C x.D y.E", "a b c d e f")
	wantNarrow(t, s, "f e d c b a", "x.A x.B x.C x.D y.E", "a b c d e f")
	wantNarrow(t, s, "", "", "")
	wantNarrow(t, s, "f", "", "f")
	wantNarrow(t, s, "a", "x.A", "a")
	wantNarrow(t, s, "b", "x.A x.B", "b")
	wantNarrow(t, s, "c", "x.A x.B x.C", "c")
	wantNarrow(t, s, "d", "x.D", "d")
	wantNarrow(t, s, "e", "x.A y.E", "e")
	wantNarrow(t, s, "d f e", "x.A x.D y.E", "d e f")
	wantNarrow(t, s, "a a a", "x.A", "a")
	wantNarrow(t, s, "f f a f", "x.A", "a f")
	// names that are none of its, and none at all
	wantNarrow(t, s, "g", "", "")
	wantNarrow(t, s, "g a x x.A let 1 -", "x.A", "a")
	wantNarrow(t, dark("x"), "a b", "", "")
	wantNarrow(t, dark("x"), "", "", "")
	wantNarrow(t, impl.Summary{Name: "x"}, "a", "", "")
	if got := impl.Narrow(s, []string{"", "\xff", strings.Repeat("a", 100000), "a"}); len(got.Exports) != 1 || len(got.Types) != 1 {
		t.Error("by names that are none")
	}
	for _, s := range rightSummaries(t) {
		var all []string
		for _, n := range s.Exports {
			all = append(all, n.Name)
		}
		if got := impl.Narrow(s, all); !sameSummary(got, s) {
			t.Errorf("narrowed to all its names\n%sis\n%s", impl.SummaryText(s), impl.SummaryText(got))
		}
		slices.Reverse(all)
		if got := impl.Narrow(s, append(all, all...)); !sameSummary(got, s) {
			t.Errorf("narrowed to all its names, each twice,\n%sis\n%s", impl.SummaryText(s), impl.SummaryText(got))
		}
	}
}
