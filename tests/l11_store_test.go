package tests

import (
	"math"
	"slices"
	"strconv"
	"strings"
	"testing"

	"loop.example/g00276/impl"
)

const greatestRoom = 100

func itemOf(input, output string) impl.Item {
	return impl.Item{Key: impl.Key(input), Input: input, Output: output}
}

// storeOf has an item for each word: its input, and its output behind a sign =.
func storeOf(room int, words string) impl.Store {
	s := impl.Store{Room: room}
	for _, word := range strings.Fields(words) {
		input, output, _ := strings.Cut(word, "=")
		s.Items = append(s.Items, itemOf(input, output))
	}
	return s
}

// fullStore has items i0, i1, .. with outputs o0, o1, ..
func fullStore(room, count int) impl.Store {
	s := impl.Store{Room: room}
	for i := range count {
		s.Items = append(s.Items, itemOf("i"+strconv.Itoa(i), "o"+strconv.Itoa(i)))
	}
	return s
}

func sameStore(a, b impl.Store) bool {
	return a.Room == b.Room && slices.Equal(a.Items, b.Items)
}

// storeText shows as much of a store as one can read.
func storeText(s impl.Store) string {
	text := "room " + strconv.Itoa(s.Room) + ":"
	for _, item := range s.Items[:min(len(s.Items), 2*greatestRoom)] {
		text += " " + item.Input[:min(len(item.Input), 30)] + "=" + item.Output[:min(len(item.Output), 30)]
	}
	return text
}

func wantStore(t *testing.T, what string, got, want impl.Store) {
	t.Helper()
	if !sameStore(got, want) {
		t.Errorf("%.60s: %s\nwant %s", what, storeText(got), storeText(want))
	}
}

func wantPut(t *testing.T, s impl.Store, input, output string, want impl.Store) {
	t.Helper()
	wantStore(t, "StorePut of "+input, impl.StorePut(s, input, output), want)
}

func wantGot(t *testing.T, s impl.Store, input, output string, want impl.Store) {
	t.Helper()
	after, got, ok := impl.StoreGet(s, input)
	if !ok || got != output {
		t.Errorf("StoreGet of %.60q = %.60q, %t, want %.60q", input, got, ok, output)
	}
	wantStore(t, "StoreGet of "+input, after, want)
}

func wantNotGot(t *testing.T, s impl.Store, input string) {
	t.Helper()
	after, got, ok := impl.StoreGet(s, input)
	if ok || got != "" {
		t.Errorf("StoreGet of %.60q = %q, %t", input, got, ok)
	}
	wantStore(t, "StoreGet of none", after, s)
}

func TestItemsPutGotAndPutAnew(t *testing.T) {
	s := impl.Store{Room: 3}
	if !impl.StoreOk(s) {
		t.Fatal("a store of nothing is none")
	}
	wantPut(t, s, "a", "1", storeOf(3, "a=1"))
	wantPut(t, storeOf(3, "a=1"), "b", "2", storeOf(3, "b=2 a=1"))
	wantPut(t, storeOf(3, "b=2 a=1"), "c", "3", storeOf(3, "c=3 b=2 a=1"))
	// one more than there is room for: the one that was used longest ago goes
	wantPut(t, storeOf(3, "c=3 b=2 a=1"), "d", "4", storeOf(3, "d=4 c=3 b=2"))
	// put anew it is the last used one, with another output or the same, and none goes for it
	wantPut(t, storeOf(3, "c=3 b=2 a=1"), "a", "9", storeOf(3, "a=9 c=3 b=2"))
	wantPut(t, storeOf(3, "c=3 b=2 a=1"), "b", "9", storeOf(3, "b=9 c=3 a=1"))
	wantPut(t, storeOf(3, "c=3 b=2 a=1"), "c", "9", storeOf(3, "c=9 b=2 a=1"))
	wantPut(t, storeOf(3, "c=3 b=2 a=1"), "b", "2", storeOf(3, "b=2 c=3 a=1"))
	wantPut(t, storeOf(3, "b=2 a=1"), "a", "", storeOf(3, "a= b=2"))
	// got it is the last used one, too
	wantGot(t, storeOf(3, "c=3 b=2 a=1"), "c", "3", storeOf(3, "c=3 b=2 a=1"))
	wantGot(t, storeOf(3, "c=3 b=2 a=1"), "b", "2", storeOf(3, "b=2 c=3 a=1"))
	wantGot(t, storeOf(3, "c=3 b=2 a=1"), "a", "1", storeOf(3, "a=1 c=3 b=2"))
	wantGot(t, storeOf(3, "b=2 a="), "a", "", storeOf(3, "a= b=2"))
	for _, input := range []string{"d", "", "A", "a ", "aa", "1", impl.Key("a")} {
		wantNotGot(t, storeOf(3, "c=3 b=2 a=1"), input)
		wantNotGot(t, s, input)
	}
	// any bytes, and none
	odd := []string{"", "\x00", "\x00\x00", "\xff", "a\nb", strings.Repeat("x", 100000)}
	for _, input := range odd {
		for _, output := range odd {
			one := impl.StorePut(s, input, output)
			wantStore(t, "StorePut", one, impl.Store{Room: 3, Items: []impl.Item{itemOf(input, output)}})
			wantGot(t, impl.StorePut(one, "other", ""), input, output, impl.Store{Room: 3, Items: []impl.Item{itemOf(input, output), itemOf("other", "")}})
		}
	}
	// the input alone tells which one it is, not the output
	wantPut(t, storeOf(3, "a=1"), "b", "1", storeOf(3, "b=1 a=1"))
	if one := impl.StorePut(s, "a", "1").Items[0]; one.Key != "af63dc4c8601ec8c" {
		t.Error("the key of a is", one.Key)
	}
}

func TestStoresOfEachRoom(t *testing.T) {
	for room := range greatestRoom + 1 {
		s := impl.Store{Room: room}
		for i := range room + 3 {
			s = impl.StorePut(s, strconv.Itoa(i), "o"+strconv.Itoa(i))
			if !impl.StoreOk(s) || len(s.Items) != min(room, i+1) || s.Room != room {
				t.Fatalf("room %d, after %d: %s", room, i+1, storeText(s))
			}
		}
		for i := range room + 3 {
			_, output, ok := impl.StoreGet(s, strconv.Itoa(i))
			if ok != (i >= 3) || ok && output != "o"+strconv.Itoa(i) {
				t.Fatalf("room %d: %d is %q, %t", room, i, output, ok)
			}
		}
	}
}

func TestRoomForNone(t *testing.T) {
	for _, s := range []impl.Store{{}, {Items: []impl.Item{}}} {
		if !impl.StoreOk(s) {
			t.Error("room for none is none")
		}
		for _, input := range []string{"", "a"} {
			wantPut(t, s, input, "1", impl.Store{})
			wantNotGot(t, s, input)
			wantNotGot(t, impl.StorePut(s, input, "1"), input)
		}
		for _, n := range []int{0, 1, 100, 101, -1} {
			wantStore(t, "StoreDrop", impl.StoreDrop(s, n), impl.Store{})
		}
	}
	if impl.StoreOk(storeOf(0, "a=1")) {
		t.Error("an item where there is no room")
	}
	wantPut(t, storeOf(1, ""), "a", "1", storeOf(1, "a=1"))
	wantPut(t, storeOf(1, "a=1"), "b", "2", storeOf(1, "b=2"))
	wantPut(t, storeOf(1, "a=1"), "a", "2", storeOf(1, "a=2"))
	wantGot(t, storeOf(1, "a=1"), "a", "1", storeOf(1, "a=1"))
	wantNotGot(t, storeOf(1, "a=1"), "b")
}

// wrongStores are none, each with an item of input a, where it has any.
func wrongStores() map[string]impl.Store {
	a := itemOf("a", "1")
	otherKey := func(key string) impl.Store {
		return impl.Store{Room: 5, Items: []impl.Item{itemOf("b", "2"), {Key: key, Input: "a", Output: "1"}}}
	}
	return map[string]impl.Store{
		"room below 0":                     {Room: -1},
		"room far below 0":                 {Room: math.MinInt},
		"room of one more":                 {Room: greatestRoom + 1},
		"room far above":                   {Room: math.MaxInt},
		"room of one more, and an item":    {Room: greatestRoom + 1, Items: []impl.Item{a}},
		"room below 0, and an item":        {Room: -1, Items: []impl.Item{a}},
		"an item where there is no room":   {Items: []impl.Item{a}},
		"one item more than room":          storeOf(2, "b=2 a=1 c=3"),
		"one item more than 100":           {Room: greatestRoom, Items: append(fullStore(0, greatestRoom).Items, a)},
		"very many items":                  {Room: greatestRoom, Items: make([]impl.Item, 200000)},
		"no key":                           otherKey(""),
		"the key of another input":         otherKey(impl.Key("b")),
		"the key in great letters":         otherKey(strings.ToUpper(impl.Key("a"))),
		"the input for its key":            otherKey("a"),
		"a key with one digit less":        otherKey(impl.Key("a")[:15]),
		"a key with one byte more":         otherKey(impl.Key("a") + " "),
		"the key of the output":            otherKey(impl.Key("1")),
		"a wrong key ahead":                {Room: 5, Items: []impl.Item{{Input: "a", Output: "1"}, itemOf("b", "2")}},
		"two of one input":                 storeOf(5, "a=1 a=1"),
		"two of one input, far apart":      storeOf(5, "b=2 a=1 c=3 d=4 a=2"),
		"two of the empty input":           {Room: 5, Items: []impl.Item{itemOf("", "1"), a, itemOf("", "2")}},
		"two of one input in a full store": {Room: greatestRoom, Items: append(fullStore(0, greatestRoom-1).Items, itemOf("i50", "o50"))},
		"the zero value of an item":        {Room: 5, Items: []impl.Item{a, {}}},
	}
}

func TestWhatIsNoStoreIsAnsweredAsItIs(t *testing.T) {
	for what, s := range wrongStores() {
		if impl.StoreOk(s) {
			t.Errorf("StoreOk of %s", what)
		}
		for _, input := range []string{"a", "b", "", "none"} {
			wantStore(t, "StorePut: "+what, impl.StorePut(s, input, "9"), s)
			after, output, ok := impl.StoreGet(s, input)
			wantStore(t, "StoreGet: "+what, after, s)
			if ok || output != "" {
				t.Errorf("StoreGet of %q = %q, %t: %s", input, output, ok, what)
			}
		}
		for _, n := range []int{0, 1, 2, 100, 101, -1} {
			wantStore(t, "StoreDrop: "+what, impl.StoreDrop(s, n), s)
		}
	}
}

func TestRightStores(t *testing.T) {
	for _, s := range []impl.Store{
		{}, {Room: 1}, {Room: greatestRoom}, storeOf(1, "a=1"), storeOf(2, "a=1"), storeOf(2, "a=1 b=1"), storeOf(greatestRoom, "z=1 a=2 m=3"),
		fullStore(greatestRoom, greatestRoom), fullStore(greatestRoom, greatestRoom-1), {Room: 2, Items: []impl.Item{itemOf("", "")}},
		{Room: 9, Items: []impl.Item{itemOf("\xff", "\x00"), itemOf("", "a"), itemOf("a", ""), itemOf("A", "")}},
	} {
		if !impl.StoreOk(s) {
			t.Errorf("not StoreOk: %s", storeText(s))
		}
	}
	if impl.StoreOk(impl.Store{Room: 1, Items: []impl.Item{{Key: "cbf29ce484222325"}}}) == false {
		t.Error("an item of the empty input")
	}
}

func TestStoresOfAHundred(t *testing.T) {
	full := fullStore(greatestRoom, greatestRoom)
	wantPut(t, full, "new", "n", impl.Store{Room: greatestRoom, Items: append([]impl.Item{itemOf("new", "n")}, full.Items[:greatestRoom-1]...)})
	wantPut(t, full, "i99", "n", impl.Store{Room: greatestRoom, Items: append([]impl.Item{itemOf("i99", "n")}, full.Items[:greatestRoom-1]...)})
	wantGot(t, full, "i99", "o99", impl.Store{Room: greatestRoom, Items: append([]impl.Item{itemOf("i99", "o99")}, full.Items[:greatestRoom-1]...)})
	less := fullStore(greatestRoom, greatestRoom-1)
	wantPut(t, less, "new", "n", impl.Store{Room: greatestRoom, Items: append([]impl.Item{itemOf("new", "n")}, less.Items...)})
	for at := range greatestRoom {
		others := slices.Delete(slices.Clone(full.Items), at, at+1)
		wantGot(t, full, "i"+strconv.Itoa(at), "o"+strconv.Itoa(at), impl.Store{Room: greatestRoom, Items: append([]impl.Item{full.Items[at]}, others...)})
	}
	wantNotGot(t, full, "i100")
}

func TestItemsThatAreDropped(t *testing.T) {
	s := storeOf(4, "c=3 b=2 a=1")
	for n, want := range map[int]string{
		0: "c=3 b=2 a=1", 1: "c=3 b=2", 2: "c=3", 3: "", 4: "", 9: "", 99: "", 100: "",
		101: "c=3 b=2 a=1", 1000: "c=3 b=2 a=1", math.MaxInt: "c=3 b=2 a=1", -1: "c=3 b=2 a=1", -2: "c=3 b=2 a=1", math.MinInt: "c=3 b=2 a=1",
	} {
		wantStore(t, "StoreDrop of "+strconv.Itoa(n), impl.StoreDrop(s, n), storeOf(4, want))
	}
	full := fullStore(greatestRoom, greatestRoom)
	for n := range greatestRoom + 1 {
		wantStore(t, "StoreDrop of "+strconv.Itoa(n), impl.StoreDrop(full, n), fullStore(greatestRoom, greatestRoom-n))
	}
	for _, n := range []int{101, -1} {
		wantStore(t, "StoreDrop of "+strconv.Itoa(n), impl.StoreDrop(full, n), full)
	}
	// what is forgotten is not got any more, and may be put again
	after := impl.StoreDrop(s, 1)
	wantNotGot(t, after, "a")
	wantPut(t, after, "a", "9", storeOf(4, "a=9 c=3 b=2"))
}

// resultOf has a module's summary and no faults.
func resultOf(s impl.Summary) impl.Result {
	return impl.Result{Name: s.Name, Summary: s}
}

func wantTask(t *testing.T, list []impl.Source, done []impl.Result, name string, texts ...string) {
	t.Helper()
	got := impl.TaskOf(list, done, name)
	if want := impl.PutTexts(texts); got != want {
		t.Errorf("TaskOf %s = %.300q, want %.300q, of\n%s", name, got, want, setText(list))
	}
}

func wantNoTask(t *testing.T, what string, list []impl.Source, done []impl.Result, name string) {
	t.Helper()
	if got := impl.TaskOf(list, done, name); got != "" {
		t.Errorf("%s: TaskOf %.60q = %.300q", what, name, got)
	}
}

func TestTasks(t *testing.T) {
	list := sourcesOf(
		"a", "import c\nimport lost\nimport b\nlet x = b.v + c.v",
		"b", "import c\nlet v = c.v",
		"c", "let v = 1",
		"d", "import d\nimport none\nimport b",
		"e", "import f import c",
		"f", "import lost import e import nope",
		"g", "import c let",
		"h", "import d\nlet x = d.v",
		"i", "",
	)
	b := impl.Summary{Name: "b", Exports: envFrom(t, "v = int")}
	c := impl.Summary{Name: "c", Types: envFrom(t, "c.T = {n: c.T | int}"), Exports: envFrom(t, "f = (c.T) -> int", "v = int")}
	done := []impl.Result{resultOf(b), resultOf(c), resultOf(dark("d"))}
	lost := impl.PutTexts([]string{"lost"})
	wantTask(t, list, done, "a", "a", list[0].Text, "0", lost, impl.PutSummary(b), impl.PutSummary(c))
	wantTask(t, list, done, "b", "b", list[1].Text, "0", "\x00", impl.PutSummary(c))
	wantTask(t, list, done, "c", "c", list[2].Text, "0", "\x00")
	wantTask(t, list, done, "h", "h", list[7].Text, "0", "\x00", impl.PutSummary(dark("d")))
	wantTask(t, list, done, "i", "i", "", "0", "\x00")
	// of Circles: with what is missing, without summaries, also where they are not there
	for _, done := range [][]impl.Result{nil, done, {{Name: "b"}, {Name: "c"}, {Name: "d"}, {Name: "e"}, {Name: "f"}}} {
		wantTask(t, list, done, "d", "d", list[3].Text, "1", impl.PutTexts([]string{"none"}))
		wantTask(t, list, done, "e", "e", list[4].Text, "1", "\x00")
		wantTask(t, list, done, "f", "f", list[5].Text, "1", impl.PutTexts([]string{"lost", "nope"}))
	}
	// not parsed: it imports nothing
	wantTask(t, list, nil, "g", "g", list[6].Text, "0", "\x00")
	if got := impl.TaskOf(list, done, "b"); got != "\x05\x01b\x14import c\nlet v = c.v\x010\x01\x00"+impl.PutText(impl.PutSummary(c)) {
		t.Errorf("%q", got)
	}
	// done in any order, and with others
	slices.Reverse(done)
	done = append(done, impl.Result{Name: "x"}, resultOf(dark("lost")), impl.Result{})
	wantTask(t, list, done, "a", "a", list[0].Text, "0", lost, impl.PutSummary(b), impl.PutSummary(c))
	// what is done already has a task, too
	wantTask(t, list, done, "c", "c", list[2].Text, "0", "\x00")
	// faults are no part of it
	done[1].Diags = []impl.Diag{{Line: 1, Code: "plus"}}
	wantTask(t, list, done, "b", "b", list[1].Text, "0", "\x00", impl.PutSummary(c))
	// of several of one name the first one counts
	wantTask(t, list, []impl.Result{resultOf(dark("c")), resultOf(c)}, "b", "b", list[1].Text, "0", "\x00", impl.PutSummary(dark("c")))
	wantTask(t, list, []impl.Result{resultOf(c), resultOf(dark("c")), {Name: "c"}}, "b", "b", list[1].Text, "0", "\x00", impl.PutSummary(c))
	wantNoTask(t, "the first of two is none", list, []impl.Result{{Name: "c"}, resultOf(c)}, "b")
	// the result's name tells whose summary it is
	wantTask(t, list, []impl.Result{{Name: "c", Summary: b}}, "b", "b", list[1].Text, "0", "\x00", impl.PutSummary(b))
	wantNoTask(t, "a summary of the name alone", list, []impl.Result{{Name: "b", Summary: c}}, "b")
}

func TestTasksOfManyImports(t *testing.T) {
	row := rowOf(impl.MaxModules, "")
	last := impl.Source{Name: "z", Text: ""}
	texts := []string{"z", "", "0", ""}
	var done []impl.Result
	var missing []string
	for _, s := range row[:impl.MaxModules-1] {
		last.Text += "import " + s.Name + "\n"
		done = append(done, resultOf(impl.Summary{Name: s.Name, Exports: envFrom(t, "v = int", "w = text")}))
		texts = append(texts, impl.PutSummary(done[len(done)-1].Summary))
	}
	for i := range impl.MaxImports - len(done) {
		missing = append(missing, "q"+strconv.Itoa(99-i))
		last.Text = "import " + missing[i] + "\n" + last.Text
	}
	slices.Reverse(missing)
	texts[1], texts[3] = last.Text, impl.PutTexts(missing)
	wantTask(t, append(row[:impl.MaxModules-1:impl.MaxModules-1], last), done, "z", texts...)
	wantNoTask(t, "without the first", append(row[:impl.MaxModules-1:impl.MaxModules-1], last), done[1:], "z")
	wantNoTask(t, "without the last", append(row[:impl.MaxModules-1:impl.MaxModules-1], last), done[:len(done)-1], "z")
	for _, text := range unparsed() {
		wantTask(t, sourcesOf("a", text, "b", "import a"), nil, "a", "a", text, "0", "\x00")
	}
	whole := strings.Repeat("#", greatestText)
	wantTask(t, sourcesOf("a", whole), nil, "a", "a", whole, "0", "\x00")
}

func TestWhatHasNoTask(t *testing.T) {
	for what, list := range wrongSets() {
		var done []impl.Result
		for _, s := range list[:min(len(list), 30)] {
			done = append(done, resultOf(dark(s.Name)))
		}
		for _, s := range append(list[:min(len(list), 30):min(len(list), 30)], impl.Source{Name: "a"}, impl.Source{Name: "b"}) {
			wantNoTask(t, what, list, nil, s.Name)
			wantNoTask(t, what, list, done, s.Name)
		}
	}
	list := sourcesOf("a", "import b\nimport c\nimport lost", "b", "let v = 1", "c", "")
	b, c := resultOf(impl.Summary{Name: "b", Exports: envFrom(t, "v = int")}), resultOf(impl.Summary{Name: "c"})
	for _, name := range []string{"", "d", "A", "a ", "lost", "import", "aa", "\xff", strings.Repeat("a", 1000)} {
		wantNoTask(t, "no such module", list, []impl.Result{b, c, resultOf(dark("lost"))}, name)
		wantNoTask(t, "no module", nil, nil, name)
	}
	for what, done := range map[string][]impl.Result{
		"nothing done":        nil,
		"one of both":         {b},
		"the other of both":   {c},
		"one twice":           {b, b},
		"others":              {b, resultOf(dark("lost")), resultOf(dark("a")), resultOf(dark("C")), {}},
		"the empty name":      {b, {Summary: c.Summary}},
		"a summary of none":   {b, {Name: "c"}},
		"Bad, with something": {b, {Name: "c", Summary: impl.Summary{Name: "c", Bad: true, Exports: envFrom(t, "v = int")}}},
	} {
		wantNoTask(t, what, list, done, "a")
		wantTask(t, list, done, "b", "b", list[1].Text, "0", "\x00")
	}
	for what, s := range wrongSummaries(t) {
		wantNoTask(t, what, list, []impl.Result{b, {Name: "c", Summary: s}}, "a")
		wantNoTask(t, what, list, []impl.Result{{Name: "b", Summary: s}, c}, "a")
		// what is not imported is not asked for
		wantTask(t, list, []impl.Result{b, c, {Name: "a", Summary: s}, {Name: s.Name + "x", Summary: s}}, "a", "a", list[0].Text, "0", impl.PutTexts([]string{"lost"}), impl.PutSummary(b.Summary), impl.PutSummary(c.Summary))
	}
	for i, s := range summariesOfWrongTypes(t) {
		wantNoTask(t, "a type that is none, "+strconv.Itoa(i), list, []impl.Result{b, {Name: "c", Summary: s}}, "a")
	}
	for _, s := range rightSummaries(t) {
		wantTask(t, list, []impl.Result{b, {Name: "c", Summary: s}}, "a", "a", list[0].Text, "0", impl.PutTexts([]string{"lost"}), impl.PutSummary(b.Summary), impl.PutSummary(s))
	}
}

// A summary of more bytes than a text may have is one, but PutTexts has none of it.
func TestTasksAtMaxBytes(t *testing.T) {
	list := sourcesOf("a", "import x\nlet v = x.r\nlet w = x.f", "x", "")
	s := wideSummary(t, impl.MaxBytes)
	task := impl.TaskOf(list, []impl.Result{resultOf(s)}, "a")
	if task != impl.PutTexts([]string{"a", list[0].Text, "0", "\x00", impl.PutSummary(s)}) || len(task) < impl.MaxBytes {
		t.Error("a summary of MaxBytes has a task of", len(task))
	}
	// what it makes of it has as many bytes: the names alone are others
	if r, ok := impl.GetResult(impl.DoTask(task)); !ok || impl.ResultText(r) != "a: ok\n" || len(r.Summary.Exports) != 2 {
		t.Error("a task of a summary of MaxBytes:", impl.ResultText(r))
	}
	both := sourcesOf("a", "import x\nlet v = x.r\nlet w = x.f\nlet y = x.f", "x", "")
	if task := impl.TaskOf(both, []impl.Result{resultOf(s)}, "a"); task == "" || impl.DoTask(task) != "" {
		t.Error("a result of more than MaxBytes")
	}
	s.Exports[0].Type.Kids = append(s.Exports[0].Type.Kids, intT)
	if !impl.SummaryOk(s) {
		t.Fatal("the test's summary is none")
	}
	wantNoTask(t, "a summary of more than MaxBytes", list, []impl.Result{resultOf(s)}, "a")
	great := impl.Summary{Name: "x", Exports: []impl.Named{{Name: "v", Type: greatType(intT, impl.MaxDeep)}}}
	if !impl.SummaryOk(great) {
		t.Fatal("the test's great summary is none")
	}
	wantNoTask(t, "a summary that no memory holds", list, []impl.Result{resultOf(great)}, "a")
	// a short module of which more is told than a text may have
	text := "let v = let a = 1 in " + strings.Repeat("let a = {p = a, q = a, r = a, s = a, t = a, u = a, v = a, w = a, x = a, y = a} in ", 8) + "a"
	task = impl.TaskOf(sourcesOf("x", text), nil, "x")
	if impl.Report(sourcesOf("x", text)) != "x: ok\n" || task != impl.PutTexts([]string{"x", text, "0", "\x00"}) {
		t.Errorf("the task of a module of great types is %.300q", task)
	}
	wantNotDone(t, "a result of more than MaxBytes", task)
}

// wantDone holds DoTask of texts against the text and the summary of a result.
func wantDone(t *testing.T, name, told string, s impl.Summary, texts ...string) {
	t.Helper()
	got := impl.DoTask(impl.PutTexts(texts))
	if want := impl.PutTexts([]string{name, told + "\n", impl.PutSummary(s)}); got != want {
		t.Errorf("DoTask of %.300q = %.300q, want %.300q", texts, got, want)
	}
}

func wantNotDone(t *testing.T, what, task string) {
	t.Helper()
	if got := impl.DoTask(task); got != "" {
		t.Errorf("%s: DoTask of %.300q = %.300q", what, task, got)
	}
}

func TestDoneTasks(t *testing.T) {
	none := "\x00"
	lib := impl.Summary{Name: "m", Types: envFrom(t, "m.T = {a: int}"), Exports: envFrom(t, "v = m.T")}
	bytes := impl.PutSummary(lib)
	wantDone(t, "b", "b: ok", impl.Summary{Name: "b", Exports: envFrom(t, "v = int")}, "b", "let v = 1\n", "0", none)
	wantDone(t, "b", "b: ok", impl.Summary{Name: "b"}, "b", "", "0", none)
	wantDone(t, "b", "b: 2:syntax", dark("b"), "b", "\nlet", "0", none)
	wantDone(t, "b", "b: 1:name", dark("b"), "b", "let v = nope", "0", none)
	wantDone(t, "b", "b: 1:circle", dark("b"), "b", "let v = 1", "1", none)
	// by a summary, by several, by more than it imports
	text := "import m\nlet w = m.v.a\nlet u = m.v"
	want := impl.Summary{Name: "x", Types: envFrom(t, "m.T = {a: int}"), Exports: envFrom(t, "u = m.T", "w = int")}
	wantDone(t, "x", "x: ok", want, "x", text, "0", none, bytes)
	wantDone(t, "x", "x: ok", want, "x", text, "0", none, impl.PutSummary(dark("a")), bytes, impl.PutSummary(dark("m")), impl.PutSummary(impl.Summary{Name: "q"}))
	wantDone(t, "x", "x: 2:plus", dark("x"), "x", "import m\nlet w = m.v + 1", "0", none, bytes)
	wantDone(t, "x", "x: ok", impl.Summary{Name: "x", Exports: envFrom(t, "w = any")}, "x", "import m\nlet w = m.v + 1", "0", none, impl.PutSummary(dark("m")), bytes)
	two := impl.PutSummary(impl.Summary{Name: "n", Exports: envFrom(t, "f = (int) -> text")})
	wantDone(t, "x", "x: ok", impl.Summary{Name: "x", Exports: envFrom(t, "w = text")}, "x", "import n import m let w = n.f(m.v.a)", "0", none, bytes, two)
	// an import of which nothing is told
	wantDone(t, "x", "x: ok", impl.Summary{Name: "x", Exports: envFrom(t, "u = any", "w = any")}, "x", text, "0", none)
	// with what is missing
	wantDone(t, "x", "x: 1:import", dark("x"), "x", "import z let v = z.v", "0", impl.PutTexts([]string{"z"}))
	wantDone(t, "x", "x: 1:import 1:import 3:plus", dark("x"), "x", "import z import m import y\n\nlet v = z.v + y.v let w = m.v + 1", "0", impl.PutTexts([]string{"z", "y"}), bytes)
	wantDone(t, "x", "x: 1:import 1:import", dark("x"), "x", "let v = 1", "0", impl.PutTexts([]string{"", "\xff"}))
	// of a circle: whatever else it has
	wantDone(t, "x", "x: 1:circle", dark("x"), "x", "let", "1", impl.PutTexts([]string{"z", "y"}), bytes, two)
	// texts that no set would have
	wantDone(t, "x", "x: 1:syntax", dark("x"), "x", strings.Repeat("#", greatestText+1), "0", none)
	wantDone(t, "x", "x: 1:syntax", dark("x"), "x", "\xff", "0", none)
	// itself among the summaries
	wantDone(t, "m", "m: ok", impl.Summary{Name: "m", Exports: envFrom(t, "v = int")}, "m", "let v = 1", "0", none, bytes)
	// as many texts as there may be
	all := append([]string{"x", text, "0", none}, slices.Repeat([]string{bytes}, impl.MaxList-4)...)
	wantDone(t, "x", "x: ok", want, all...)
	if got := impl.DoTask("\x04\x01b\x09let v = 1\x010\x01\x00"); got != "\x03\x01b\x06b: ok\n\x08\x01b\x00\x00\x01\x01v\x00" {
		t.Errorf("%q", got)
	}
}

func TestWhatIsNoTask(t *testing.T) {
	none := "\x00"
	lib := impl.PutSummary(impl.Summary{Name: "m", Types: envFrom(t, "m.T = {a: int | text}"), Exports: envFrom(t, "v = m.T")})
	right := []string{"x", "import m\nimport z\nlet w = m.v.a", "0", impl.PutTexts([]string{"z"}), lib, impl.PutSummary(dark("n"))}
	task := impl.PutTexts(right)
	if impl.DoTask(task) == "" {
		t.Fatal("the test's task is none")
	}
	for count := range 4 {
		wantNotDone(t, "fewer than four texts", impl.PutTexts(right[:count]))
	}
	for _, at := range []int{2, 3, 4, 5} {
		with := func(text string) string {
			texts := slices.Clone(right)
			texts[at] = text
			return impl.PutTexts(texts)
		}
		for _, text := range []string{"", "2", "00", "01", "10", "1 ", " 1", "-1", "+1", "\x01", "true", "a", "\xff", "0\n", "O", "x"} {
			wantNotDone(t, "another text at "+strconv.Itoa(at), with(text))
		}
		if at < 4 {
			wantNotDone(t, "a summary at "+strconv.Itoa(at), with(lib))
		}
		if at > 3 {
			for _, text := range []string{none, impl.PutTexts([]string{"z"}), lib[1:], lib[:len(lib)-1], lib + none, lib + lib, impl.PutText(lib), task} {
				wantNotDone(t, "no summary at "+strconv.Itoa(at), with(text))
			}
			for what, s := range wrongSummaries(t) {
				wantNotDone(t, what, with(rawSummary(s)))
			}
		}
	}
	missing := impl.PutTexts([]string{"z", "y"})
	for _, text := range []string{missing[1:], missing[:len(missing)-1], missing + none, "\x01", "\x81\x00\x01z", impl.PutNum(impl.MaxList+1) + strings.Repeat(none, impl.MaxList+1)} {
		wantNotDone(t, "no PutTexts", impl.PutTexts([]string{"x", "let v = 1", "0", text}))
		wantNotDone(t, "no PutTexts, of a circle", impl.PutTexts([]string{"x", "let v = 1", "1", text, lib}))
	}
	// one byte less, and one more
	for at := range len(task) {
		wantNotDone(t, "cut off", task[:at])
		wantNotDone(t, "cut off ahead", task[at+1:])
		wantNotDone(t, "one byte less", task[:at]+task[at+1:])
	}
	for b := range 256 {
		wantNotDone(t, "one byte more", task+string([]byte{byte(b)}))
		wantNotDone(t, "one byte more ahead", string([]byte{byte(b)})+task)
	}
	// of a circle all the same
	wantNotDone(t, "no summary, of a circle", impl.PutTexts([]string{"x", "", "1", none, "x"}))
	wantNotDone(t, "no summary behind a right one, of a circle", impl.PutTexts([]string{"x", "", "1", none, lib, ""}))
	// names without a result
	for _, name := range []string{"", "let", "a.b", "abcdefghijklm", "a b", "1", "\xff", "x\n"} {
		for _, circle := range []string{"0", "1"} {
			for _, text := range []string{"", "let v = 1", "let"} {
				wantNotDone(t, "no name", impl.PutTexts([]string{name, text, circle, none}))
			}
		}
	}
	for _, s := range []string{"", none, "\x04", "\x04\x00\x00\x00\x00", "x", "\xff\xff\xff\xff\x7f"} {
		wantNotDone(t, "no texts", s)
	}
}
