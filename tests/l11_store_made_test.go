package tests

import (
	"math"
	"reflect"
	"slices"
	"strconv"
	"strings"
	"sync"
	"testing"

	"loop.example/g00276/impl"
)

// From here on the document's chapter is told once more, sentence by sentence.

func keyByWords(s string) string {
	sum := uint64(14695981039346656037)
	for _, b := range []byte(s) {
		sum ^= uint64(b)
		sum *= 1099511628211
	}
	digits := strconv.FormatUint(sum, 16)
	return strings.Repeat("0", 16-len(digits)) + digits
}

func storeOkByWords(s impl.Store) bool {
	if s.Room < 0 || s.Room > 100 || len(s.Items) > s.Room {
		return false
	}
	for i, item := range s.Items {
		if item.Key != keyByWords(item.Input) {
			return false
		}
		for _, other := range s.Items[:i] {
			if other.Input == item.Input {
				return false
			}
		}
	}
	return true
}

func withoutInput(s impl.Store, input string) []impl.Item {
	return slices.DeleteFunc(slices.Clone(s.Items), func(item impl.Item) bool { return item.Input == input })
}

func putByWords(s impl.Store, input, output string) impl.Store {
	if !storeOkByWords(s) {
		return s
	}
	items := append([]impl.Item{{Key: keyByWords(input), Input: input, Output: output}}, withoutInput(s, input)...)
	return impl.Store{Room: s.Room, Items: items[:min(len(items), s.Room)]}
}

func getByWords(s impl.Store, input string) (impl.Store, string, bool) {
	if storeOkByWords(s) {
		for _, item := range s.Items {
			if item.Input == input {
				return impl.Store{Room: s.Room, Items: append([]impl.Item{item}, withoutInput(s, input)...)}, item.Output, true
			}
		}
	}
	return s, "", false
}

func dropByWords(s impl.Store, n int) impl.Store {
	if !storeOkByWords(s) || n < 0 || n > 100 {
		return s
	}
	return impl.Store{Room: s.Room, Items: s.Items[:max(0, len(s.Items)-n)]}
}

func putTextsByWords(texts []string) string {
	if len(texts) > impl.MaxList {
		return ""
	}
	bytes := numByWords(len(texts))
	for _, text := range texts {
		if len(text) > impl.MaxBytes {
			return ""
		}
		bytes += textByWordsOfBytes(text)
	}
	return bytes
}

func taskByWords(list []impl.Source, done []impl.Result, name string) string {
	if !setByWords(list) || !hasModule(list, name) {
		return ""
	}
	within, missing := importsByWords(list, name)
	circle := "0"
	if slices.Contains(graphByWords(list).circles(), name) {
		circle, within = "1", nil
	}
	at := slices.IndexFunc(list, func(s impl.Source) bool { return s.Name == name })
	texts := []string{name, list[at].Text, circle, putTextsByWords(missing)}
	for _, of := range within {
		at := slices.IndexFunc(done, func(r impl.Result) bool { return r.Name == of })
		if at < 0 || !summaryOkByWords(done[at].Summary) {
			return ""
		}
		texts = append(texts, rawSummary(done[at].Summary))
	}
	return putTextsByWords(texts)
}

func doTaskByWords(task string) string {
	texts, ok := impl.GetTexts(task)
	if !ok || len(texts) < 4 || texts[2] != "0" && texts[2] != "1" {
		return ""
	}
	missing, ok := impl.GetTexts(texts[3])
	if !ok {
		return ""
	}
	var imports []impl.Summary
	for _, text := range texts[4:] {
		s, ok := impl.GetSummary(text)
		if !ok {
			return ""
		}
		imports = append(imports, s)
	}
	return putResultByWords(checkOneByWords(texts[0], texts[1], texts[2] == "1", missing, imports))
}

// A step is what is done with a store: something is put, got or dropped.
type step struct {
	way           int
	input, output string
	n             int
}

const (
	stepPut = iota
	stepGet
	stepDrop
)

// stepAsByWords does a step, and holds all that is told of it against the chapter's words.
func stepAsByWords(t *testing.T, s impl.Store, by step) impl.Store {
	t.Helper()
	var got, want impl.Store
	switch by.way {
	case stepPut:
		got, want = impl.StorePut(s, by.input, by.output), putByWords(s, by.input, by.output)
	case stepGet:
		var output, wanted string
		var ok, isThere bool
		got, output, ok = impl.StoreGet(s, by.input)
		want, wanted, isThere = getByWords(s, by.input)
		if output != wanted || ok != isThere {
			t.Fatalf("StoreGet of %.60q = %.60q, %t of %s", by.input, output, ok, storeText(s))
		}
	case stepDrop:
		got, want = impl.StoreDrop(s, by.n), dropByWords(s, by.n)
	}
	if !sameStore(got, want) {
		t.Fatalf("step %d by %.60q, %.60q, %d makes %s\nof %s\nwant %s", by.way, by.input, by.output, by.n, storeText(got), storeText(s), storeText(want))
	}
	if impl.StoreOk(s) != storeOkByWords(s) || impl.StoreOk(got) != storeOkByWords(want) {
		t.Fatalf("StoreOk = %t of %s, and %t of %s", impl.StoreOk(s), storeText(s), impl.StoreOk(got), storeText(got))
	}
	return got
}

// A usage has what was put and not forgotten: the output, and when it was used last.
type usage struct {
	room  int
	clock int
	last  map[string]use
}

type use struct {
	output string
	when   int
}

func newUsage(room int) *usage {
	return &usage{room: room, last: map[string]use{}}
}

func (u *usage) do(by step) {
	u.clock++
	switch by.way {
	case stepPut:
		u.last[by.input] = use{by.output, u.clock}
		u.forget(len(u.last) - u.room)
	case stepGet:
		if old, ok := u.last[by.input]; ok {
			u.last[by.input] = use{old.output, u.clock}
		}
	case stepDrop:
		if by.n <= 100 {
			u.forget(by.n)
		}
	}
}

func (u *usage) forget(count int) {
	for ; count > 0 && len(u.last) > 0; count-- {
		oldest, when := "", math.MaxInt
		for input, of := range u.last {
			if of.when < when {
				oldest, when = input, of.when
			}
		}
		delete(u.last, oldest)
	}
}

// wantAsUsed asks that what was put and not forgotten is got, and nothing else, and that no more is kept than there
// is room for, the last used one first.
func wantAsUsed(t *testing.T, s impl.Store, u *usage, inputs []string) {
	t.Helper()
	if len(s.Items) != len(u.last) || len(s.Items) > u.room || s.Room != u.room || !impl.StoreOk(s) {
		t.Fatalf("%d are kept, not %d: %s", len(s.Items), len(u.last), storeText(s))
	}
	for _, input := range inputs {
		_, output, ok := impl.StoreGet(s, input)
		of, kept := u.last[input]
		if ok != kept || output != of.output {
			t.Fatalf("StoreGet of %q = %q, %t, want %q, %t, of %s", input, output, ok, of.output, kept, storeText(s))
		}
	}
	for i, item := range s.Items {
		if i > 0 && u.last[item.Input].when >= u.last[s.Items[i-1].Input].when {
			t.Fatalf("%q at %d was used later than the one ahead of it: %s", item.Input, i, storeText(s))
		}
	}
}

func TestEachShortRunOfAStore(t *testing.T) {
	steps := []step{{way: stepPut, input: "a"}, {way: stepPut, input: "b"}, {way: stepPut, input: "c"}, {way: stepGet, input: "a"}, {way: stepGet, input: "b"}, {way: stepDrop, n: 1}, {way: stepDrop, n: 2}}
	inputs := []string{"a", "b", "c", ""}
	full := 0
	for room := range 4 {
		eachNumbers(5, len(steps), func(places []int) {
			s, u := impl.Store{Room: room}, newUsage(room)
			for i, at := range places {
				by := steps[at]
				by.output = strconv.Itoa(i)
				s = stepAsByWords(t, s, by)
				u.do(by)
				if len(s.Items) == room {
					full++
				}
			}
			wantAsUsed(t, s, u, inputs)
		})
	}
	if full < 10000 {
		t.Error("the test's stores have room left:", full)
	}
}

// madeSteps are steps over some inputs, fewer or more than there is room for.
func madeSteps(m *typeMaker, count, inputs int) []step {
	var list []step
	for range count {
		by := step{input: "i" + strconv.Itoa(m.next(inputs)), output: "o" + strconv.Itoa(m.next(250))}
		switch m.next(9) {
		case 0, 1, 2, 3:
			by.way = stepPut
		case 8:
			by.way, by.n = stepDrop, []int{0, 1, 1, 2, 3, 5, 100, 101}[m.next(8)]
		default:
			by.way = stepGet
		}
		list = append(list, by)
	}
	return list
}

func TestRunsOfStoresThatAreMade(t *testing.T) {
	got, full, forgotten := 0, 0, 0
	for seed := range uint64(300) {
		m := &typeMaker{bytes: someBytes(seed+616161, 1500)}
		room := []int{0, 1, 2, 3, 5, 8, 20, 99, 100}[m.next(9)]
		count := max(2, min(250, room*[]int{1, 2, 3}[m.next(3)]))
		var inputs []string
		for i := range count {
			inputs = append(inputs, "i"+strconv.Itoa(i))
		}
		s, u := impl.Store{Room: room}, newUsage(room)
		if m.next(2) == 0 {
			for i := range room {
				by := step{way: stepPut, input: inputs[i%count], output: "first"}
				s = stepAsByWords(t, s, by)
				u.do(by)
			}
		}
		for i, by := range madeSteps(m, 200, count) {
			before := len(s.Items)
			if _, kept := u.last[by.input]; kept && by.way == stepGet {
				got++
			}
			s = stepAsByWords(t, s, by)
			u.do(by)
			if i%10 == 0 {
				wantAsUsed(t, s, u, inputs)
			}
			if room > 0 && len(s.Items) == room {
				full++
			}
			if len(s.Items) < before {
				forgotten++
			}
		}
		wantAsUsed(t, s, u, inputs)
	}
	if got < 5000 || full < 10000 || forgotten < 2000 {
		t.Error("the test's runs are of one sort:", got, full, forgotten)
	}
}

// amissStore is a store with something in it that may not be so, or is so all the same.
func amissStore(m *typeMaker, s impl.Store) impl.Store {
	s.Items = slices.Clone(s.Items)
	at := m.next(len(s.Items) + 1)
	switch way := m.next(7); {
	case way == 0:
		s.Room = []int{-1, 0, 1, 2, 3, 99, 100, 101, math.MinInt, math.MaxInt}[m.next(10)]
	case way == 1:
		s.Items = append(s.Items, itemOf("i"+strconv.Itoa(m.next(9)), "more"))
	case at == len(s.Items):
	case way == 2:
		s.Items[at].Key = changed(m, s.Items[at].Key)
	case way == 3:
		s.Items[at].Input = "i" + strconv.Itoa(m.next(9))
	case way == 4:
		s.Items[at].Output = changed(m, s.Items[at].Output)
	case way == 5:
		s.Items[at] = s.Items[m.next(len(s.Items))]
	case way == 6:
		other := m.next(len(s.Items))
		s.Items[at], s.Items[other] = s.Items[other], s.Items[at]
	}
	return s
}

func TestStoresWithSomethingAmissAsTheWordsTell(t *testing.T) {
	right, wrong := 0, 0
	for seed := range uint64(4000) {
		m := &typeMaker{bytes: someBytes(seed+727272, 300)}
		s := impl.Store{Room: []int{1, 2, 3, 6, 100}[m.next(5)]}
		for _, by := range madeSteps(m, m.next(12), 9) {
			s = stepAsByWords(t, s, by)
		}
		s = amissStore(m, s)
		if impl.StoreOk(s) {
			right++
		} else {
			wrong++
		}
		for _, by := range madeSteps(m, 5, 9) {
			stepAsByWords(t, s, by)
			by.way, by.n = stepDrop, []int{-1, 0, 1, 100, 101, math.MaxInt, math.MinInt}[m.next(7)]
			stepAsByWords(t, s, by)
		}
	}
	if right < 1000 || wrong < 1000 {
		t.Error("the test's stores are of one sort:", right, wrong)
	}
}

// wantPromiseOfTasks is promise 11 over a set: each module's task, by the results of those ahead of it as they come
// back from their bytes, gives the result that CheckAll has for it. It tells the tasks, in Order.
func wantPromiseOfTasks(t *testing.T, list []impl.Source) []string {
	t.Helper()
	all := map[string]impl.Result{}
	for _, r := range impl.CheckAll(list) {
		all[r.Name] = r
	}
	var tasks []string
	var done []impl.Result
	for _, name := range impl.Order(list) {
		task := impl.TaskOf(list, done, name)
		bytes := impl.DoTask(task)
		if task == "" || bytes == "" || bytes != impl.PutResult(all[name]) {
			t.Fatalf("the task of %s, %.200q, gives %.200q, not %.200q, of\n%s", name, task, bytes, impl.PutResult(all[name]), wholeSetText(list))
		}
		r, ok := impl.GetResult(bytes)
		if !ok || !sameResult(r, all[name]) {
			t.Fatalf("the task of %s gives %+v, not %+v, of\n%s", name, r, all[name], wholeSetText(list))
		}
		tasks = append(tasks, task)
		done = append(done, r)
	}
	if len(tasks) != len(list) {
		t.Fatalf("%d tasks of %d modules", len(tasks), len(list))
	}
	return tasks
}

func TestTasksOfEachSetOfThreeModulesGiveTheSingleCheckersResult(t *testing.T) {
	tasks := map[string]int{}
	eachNumbers(3, 17, func(bits []int) {
		list := valuedSet([]string{"a", "b", "c"}, []string{"n"}, bits)
		for _, task := range wantPromiseOfTasks(t, list) {
			tasks[task]++
		}
	})
	if len(tasks) < 60 {
		t.Error("the test's sets are of one sort:", len(tasks))
	}
}

func TestTasksOfSetsThatAreMadeGiveTheSingleCheckersResult(t *testing.T) {
	codes, right, several := map[string]int{}, 0, 0
	madeReports(500, func(m *reportMaker, list []impl.Source) {
		for _, task := range wantPromiseOfTasks(t, list) {
			texts, _ := impl.GetTexts(task)
			if len(texts) > 5 {
				several++
			}
			r, _ := impl.GetResult(impl.DoTask(task))
			for _, d := range r.Diags {
				codes[d.Code]++
			}
			if len(r.Diags) == 0 && len(texts) > 4 {
				right++
			}
		}
	})
	for _, code := range allCodes {
		if code != "many" && codes[code] < 10 {
			t.Error("few modules are wrong so:", code, codes[code])
		}
	}
	if right < 300 || several < 300 {
		t.Error("the test's sets are of one sort:", right, several)
	}
	for seed := range uint64(500) {
		m := &setMaker{typeMaker{bytes: someBytes(seed+828282, 500)}}
		wantPromiseOfTasks(t, m.set())
	}
	wantPromiseOfTasks(t, nil)
	wantPromiseOfTasks(t, rowOf(impl.MaxModules, ""))
	wantPromiseOfTasks(t, greatSet(6, 5))
	for _, text := range unparsed() {
		wantPromiseOfTasks(t, sourcesOf("a", text, "b", "import a import c let v = a.v + 1", "c", "let v = 1"))
	}
	many := ""
	for i := range impl.MaxDefs + 1 {
		many += "let a" + strconv.Itoa(i) + " = 1\n"
	}
	wantPromiseOfTasks(t, sourcesOf("a", many, "b", "import a\nlet v = a.a0 + true"))
}

// Whoever does a task, and beside whatever other ones: what it gives is the same, and so is the task, whatever else
// is done by then.
func TestTasksDoneByManyAtOnce(t *testing.T) {
	madeReports(60, func(m *reportMaker, list []impl.Source) {
		all := impl.CheckAll(list)
		answers := make([]string, 3*len(list))
		var group sync.WaitGroup
		for i := range answers {
			group.Go(func() {
				answers[i] = impl.DoTask(impl.TaskOf(list, all, list[i%len(list)].Name))
			})
		}
		group.Wait()
		for i, bytes := range answers {
			if bytes != impl.PutResult(all[i%len(list)]) {
				t.Fatalf("done at once, %s is %.200q, of\n%s", list[i%len(list)].Name, bytes, wholeSetText(list))
			}
		}
		others := slices.Clone(all)
		slices.Reverse(others)
		others = append(append([]impl.Result{{}, {Name: "n1"}, resultOf(dark("q"))}, others...), all...)
		others = append(others, resultOf(dark(list[0].Name)))
		for _, s := range list {
			if impl.TaskOf(list, others, s.Name) != impl.TaskOf(list, all, s.Name) {
				t.Fatalf("another task of %s among others, of\n%s", s.Name, wholeSetText(list))
			}
		}
	})
}

// partlyDone are the results of a set, some without a summary that is one, some gone, and some twice.
func partlyDone(m *typeMaker, all []impl.Result) []impl.Result {
	var done []impl.Result
	for _, r := range all {
		switch m.next(8) {
		case 0:
			continue
		case 1:
			r.Summary = impl.Summary{Name: r.Name, Bad: true, Exports: []impl.Named{{Name: "v", Type: intT}}}
		case 2:
			r.Summary = dark(all[m.next(len(all))].Name)
		case 3:
			done = append(done, resultOf(dark(r.Name)))
		}
		at := m.next(len(done) + 1)
		done = slices.Insert(done, at, r)
	}
	return done
}

func TestTasksByAnyResultsAsTheWordsTell(t *testing.T) {
	some, none := 0, 0
	hold := func(list []impl.Source, done []impl.Result, name string) {
		got, want := impl.TaskOf(list, done, name), taskByWords(list, done, name)
		if got != want {
			t.Fatalf("TaskOf %q = %.300q\nwant %.300q by %+v, of\n%s", name, got, want, done, wholeSetText(list))
		}
		if got == "" {
			none++
		} else {
			some++
		}
	}
	madeReports(200, func(m *reportMaker, list []impl.Source) {
		all := impl.CheckAll(list)
		for range 3 {
			done := partlyDone(&m.typeMaker, all)
			for _, s := range list {
				hold(list, done, s.Name)
			}
			hold(list, done, "n1")
		}
	})
	for seed := range uint64(150) {
		m := &setMaker{typeMaker{bytes: someBytes(seed+939393, 700)}}
		list := m.set()
		done := partlyDone(&m.typeMaker, impl.CheckAll(list))
		for _, s := range list {
			hold(list, done, s.Name)
		}
	}
	for _, list := range wrongSets() {
		for _, s := range list[:min(len(list), 25)] {
			hold(list, []impl.Result{resultOf(dark("a")), resultOf(dark("b"))}, s.Name)
		}
	}
	if some < 1500 || none < 500 {
		t.Error("the test's results are of one sort:", some, none)
	}
}

// wantDoneByWords holds DoTask against the chapter's words, and tells whether it is a task.
func wantDoneByWords(t *testing.T, task string) bool {
	t.Helper()
	got, want := impl.DoTask(task), doTaskByWords(task)
	if got != want {
		t.Fatalf("DoTask(%.3000q) = %.300q\nwant %.300q", task, got, want)
	}
	return got != ""
}

func TestTasksThatAreMadeAsTheWordsTell(t *testing.T) {
	taken, none := 0, 0
	count := func(task string) {
		if wantDoneByWords(t, task) {
			taken++
		} else {
			none++
		}
	}
	madeOnes(t, 300, func(name, text string, circle bool, missing []string, imports []impl.Summary) {
		texts := []string{name, text, "0", impl.PutTexts(missing)}
		if circle {
			texts[2] = "1"
		}
		for _, s := range imports {
			if impl.SummaryOk(s) {
				texts = append(texts, impl.PutSummary(s))
			}
		}
		task := impl.PutTexts(texts)
		count(task)
		m := &typeMaker{bytes: someBytes(uint64(len(task)+taken*31), 100)}
		for range 4 {
			count(changed(m, task))
			other := slices.Clone(texts)
			at := m.next(len(other))
			switch m.next(4) {
			case 0:
				other[at] = changed(m, other[at])
			case 1:
				other = slices.Delete(other, at, at+1)
			case 2:
				other = slices.Insert(other, at, other[m.next(len(other))])
			case 3:
				other[at] = []string{"", "0", "1", "2", "\x00", "x", "\x01\x01z"}[m.next(7)]
			}
			count(impl.PutTexts(other))
		}
	})
	if taken < 1000 || none < 2000 {
		t.Error("the test's tasks are of one sort:", taken, none)
	}
}

// With what was checked already at hand, only those modules of a set with one other text are checked again that are
// above that one; and what is found is what a single checker tells.
func TestWhatWasCheckedAlreadyIsFound(t *testing.T) {
	found, checked := 0, 0
	madeReports(80, func(m *reportMaker, list []impl.Source) {
		s := impl.Store{Room: greatestRoom}
		check := func(list []impl.Source) (made []string) {
			var done []impl.Result
			for _, name := range impl.Order(list) {
				task := impl.TaskOf(list, done, name)
				after, bytes, ok := impl.StoreGet(s, task)
				s = after
				if !ok {
					bytes = impl.DoTask(task)
					s = impl.StorePut(s, task, bytes)
					made = append(made, name)
				}
				r, _ := impl.GetResult(bytes)
				done = append(done, r)
			}
			for _, r := range impl.CheckAll(list) {
				if !slices.ContainsFunc(done, func(of impl.Result) bool { return sameResult(of, r) }) {
					t.Fatalf("what was found of %s is not what is told of it, of\n%s", r.Name, wholeSetText(list))
				}
			}
			return made
		}
		if made := check(list); len(made) != len(list) {
			t.Fatalf("%q were made, of\n%s", made, wholeSetText(list))
		}
		if made := check(list); len(made) != 0 {
			t.Fatalf("%q were made again, of\n%s", made, wholeSetText(list))
		}
		at := m.next(len(list))
		other := slices.Clone(list)
		other[at].Text = []string{"", "let v1 = 1", "let", "import " + list[m.next(len(list))].Name}[m.next(4)] + "# other"
		made := check(other)
		for _, name := range made {
			if name != list[at].Name && !slices.Contains(impl.Above(list, list[at].Name), name) && !slices.Contains(impl.Above(other, list[at].Name), name) {
				t.Fatalf("%s was made again for %s, of\n%s", name, list[at].Name, wholeSetText(other))
			}
		}
		found, checked = found+len(list)-len(made), checked+len(made)
	})
	if found < 80 || checked < 90 {
		t.Error("the test's sets are of one sort:", found, checked)
	}
}

func (m *memoryOf) addItems(list []impl.Item) {
	list = list[:cap(list)]
	for i := range list {
		m.places[&list[i]]++
		m.texts = append(m.texts, list[i].Key, list[i].Input, list[i].Output)
	}
}

func roomyStore(s impl.Store) impl.Store {
	out := impl.Store{Room: s.Room}
	for _, item := range s.Items {
		out.Items = append(out.Items, impl.Item{Key: strings.Clone(item.Key), Input: strings.Clone(item.Input), Output: strings.Clone(item.Output)})
	}
	out.Items = append(out.Items, itemOf("spare", "spare"), itemOf("more", "spare"))[:len(s.Items)]
	return out
}

// wantNewStores calls each function of the chapter that takes a store with one that has room behind its items.
func wantNewStores(t *testing.T, of impl.Store, inputs ...string) {
	t.Helper()
	s := roomyStore(of)
	before := slices.Clone(s.Items[:cap(s.Items)])
	given := newMemory()
	given.addItems(s.Items)
	look := func(what string, add func(a *memoryOf)) {
		t.Helper()
		answer := newMemory()
		add(answer)
		wantNewMemory(t, what, answer, given)
		if !slices.Equal(s.Items[:cap(s.Items)], before) {
			t.Fatalf("%s wrote into %s", what, storeText(of))
		}
	}
	look("StoreOk", func(a *memoryOf) { impl.StoreOk(s) })
	for _, input := range inputs {
		input, output := strings.Clone(input), strings.Clone("given "+input)
		given.texts = append(given.texts, input, output)
		look("StorePut", func(a *memoryOf) { a.addItems(impl.StorePut(s, input, output).Items) })
		look("StoreGet", func(a *memoryOf) {
			after, got, _ := impl.StoreGet(s, input)
			a.addItems(after.Items)
			a.texts = append(a.texts, got)
		})
	}
	for _, n := range []int{-1, 0, 1, 2, 100, 101} {
		look("StoreDrop", func(a *memoryOf) { a.addItems(impl.StoreDrop(s, n).Items) })
	}
	first, second := impl.StorePut(s, "put", "twice"), impl.StorePut(s, "put", "twice")
	answer, given := newMemory(), newMemory()
	answer.addItems(first.Items)
	given.addItems(second.Items)
	wantNewMemory(t, "StorePut twice", answer, given)
}

func TestNothingIsWrittenIntoStoresAndAnswersAreNew(t *testing.T) {
	inputs := []string{"", "a", "b", "c", "i0", "i5", "i99", "none"}
	for _, s := range []impl.Store{{}, {Room: 3}, storeOf(1, "a=1"), storeOf(3, "a=1 b=2"), storeOf(3, "c=3 a=1 b=2"), fullStore(greatestRoom, greatestRoom), fullStore(greatestRoom, 7)} {
		wantNewStores(t, s, inputs...)
	}
	for what, s := range wrongStores() {
		if len(s.Items) < 1000 {
			wantNewStores(t, s, inputs...)
		} else if after := impl.StorePut(s, "a", "1"); len(after.Items) != len(s.Items) || &after.Items[0] == &s.Items[0] {
			t.Error(what)
		}
	}
	for seed := range uint64(200) {
		m := &typeMaker{bytes: someBytes(seed+343434, 200)}
		s := impl.Store{Room: 1 + m.next(6)}
		for _, by := range madeSteps(m, 10, 9) {
			s = stepAsByWords(t, s, by)
		}
		wantNewStores(t, s, "i1", "i2", "i3", "i4")
		wantNewStores(t, amissStore(m, s), "i1", "i2", "i3", "i4")
	}
}

// wantNewTasks calls TaskOf and DoTask with lists that have room behind them.
func wantNewTasks(t *testing.T, of []impl.Source, results []impl.Result) {
	t.Helper()
	list, given, look := lookAtSet(t, of)
	var done []impl.Result
	for _, r := range results {
		done = append(done, roomyResult(r))
	}
	done = append(done, resultOf(dark("spare")))[:len(results)]
	all := func() any { return wholeModule(reflect.ValueOf(done)).Interface() }
	before := all()
	given.addResults(done)
	for _, s := range list {
		task := ""
		look("TaskOf", func(a *memoryOf) {
			task = impl.TaskOf(list, done, s.Name)
			a.texts = append(a.texts, task)
		})
		given.texts = append(given.texts, task)
		look("DoTask", func(a *memoryOf) { a.texts = append(a.texts, impl.DoTask(task)) })
		given.texts = given.texts[:len(given.texts)-1]
	}
	if !reflect.DeepEqual(all(), before) {
		t.Fatalf("TaskOf wrote into the results of\n%s", wholeSetText(of))
	}
}

func TestNothingIsWrittenIntoWhatTasksAreMadeOf(t *testing.T) {
	madeReports(60, func(m *reportMaker, list []impl.Source) {
		all := impl.CheckAll(list)
		wantNewTasks(t, list, all)
		wantNewTasks(t, list, partlyDone(&m.typeMaker, all))
	})
	wantNewTasks(t, rowOf(impl.MaxModules+1, ""), nil)
}

func TestAnyStoreAndTaskIsAnswered(t *testing.T) {
	long := strings.Repeat("x", 1000000)
	// one text in very many items: no memory holds theirs one by one
	many := impl.Store{Room: greatestRoom, Items: slices.Repeat([]impl.Item{{Key: long, Input: long, Output: long}}, 100000)}
	for _, room := range []int{math.MinInt, -1, 0, 1, 100, 101, 100000, math.MaxInt} {
		many.Room = room
		if impl.StoreOk(many) {
			t.Error("very many items of one input")
		}
		got, output, ok := impl.StoreGet(many, long)
		for _, s := range []impl.Store{got, impl.StorePut(many, "a", long), impl.StoreDrop(many, 1)} {
			if s.Room != room || len(s.Items) != len(many.Items) || s.Items[len(s.Items)-1] != many.Items[0] || &s.Items[0] == &many.Items[0] || ok || output != "" {
				t.Error("what is no store is answered otherwise", len(s.Items))
			}
		}
	}
	for _, room := range []int{0, 1, 2, 100} {
		s := impl.Store{Room: room}
		for i := range 5 {
			s = stepAsByWords(t, s, step{way: stepPut, input: long[i:], output: long})
			s = stepAsByWords(t, s, step{way: stepGet, input: long})
		}
	}
	great := resultOf(impl.Summary{Name: "b", Types: []impl.Named{{Name: "b.T", Type: greatType(nameT("b.T"), impl.MaxDeep)}}, Exports: []impl.Named{{Name: "v", Type: nameT("b.T")}}})
	list := sourcesOf("a", "import b import c let v = b.v", "b", "", "c", "import b")
	for _, done := range [][]impl.Result{nil, {great}, {great, great, {}}, make([]impl.Result, 200000), {{Name: long, Summary: impl.Summary{Name: long}}}} {
		for _, name := range []string{"", "a", "b", "c", "d", "let", "\xff", long} {
			for _, of := range [][]impl.Source{nil, list, rowOf(impl.MaxModules+1, ""), {{Name: long, Text: long}}, make([]impl.Source, 200000)} {
				if got, want := impl.TaskOf(of, done, name), ""; got != want && (name != "b" || of[0].Name != "a") {
					t.Errorf("TaskOf %.20q = %.100q", name, got)
				}
			}
		}
	}
	for _, s := range append(summariesOfWrongTypes(t), rightSummaries(t)...) {
		impl.DoTask(impl.TaskOf(list, []impl.Result{{Name: "b", Summary: s}, {Name: "c", Summary: s}}, "a"))
	}
	for seed := range uint64(3000) {
		s := string(someBytes(seed, 60))
		wantDoneByWords(t, s)
		wantDoneByWords(t, impl.PutTexts([]string{"m", s, "0", "\x00"}))
		wantDoneByWords(t, impl.PutTexts([]string{"m", "import n let v = n.v", "0", s}))
		wantDoneByWords(t, impl.PutTexts([]string{"m", "import n let v = n.v", "0", "\x00", s}))
		wantDoneByWords(t, "\x04"+s)
	}
	for _, text := range []string{"", "let", long, strings.Repeat("(", impl.MaxSource), "let x = " + strings.Repeat("(", 2900), "type T = " + strings.Repeat("{a: ", 700), strings.Repeat("\x00", impl.MaxSource)} {
		for _, circle := range []string{"0", "1"} {
			for _, missing := range [][]string{nil, {"m"}, {"", long, "\xff"}, make([]string, impl.MaxList)} {
				if impl.DoTask(impl.PutTexts([]string{"m", text, circle, impl.PutTexts(missing)})) == "" {
					t.Errorf("DoTask of %.20q with %d missing is nothing", text, len(missing))
				}
			}
		}
	}
	for _, unit := range []string{"\x00", "\x01", "\x04", "\x7f", "\x80", "\xff", "m"} {
		impl.DoTask(strings.Repeat(unit, 100000))
		impl.DoTask(impl.PutTexts(slices.Repeat([]string{unit}, impl.MaxList)))
		impl.DoTask(impl.PutTexts([]string{"m", "", "0", strings.Repeat(unit, 100000)}))
	}
}

func FuzzStore(f *testing.F) {
	for seed := range uint64(6) {
		f.Add(2, someBytes(seed, 40), "import b\nlet v = b.v", "let v = 1", impl.PutTexts([]string{"m", "let v = 1", "0", "\x00", impl.PutSummary(dark("n"))}))
	}
	f.Fuzz(func(t *testing.T, room int, bytes []byte, first, second, task string) {
		m := &typeMaker{bytes: bytes[:min(len(bytes), 500)]}
		s, u := impl.Store{Room: room}, newUsage(room)
		for _, by := range madeSteps(m, len(m.bytes)/4, 9) {
			s = stepAsByWords(t, s, by)
			u.do(by)
		}
		if room >= 0 && room <= greatestRoom {
			wantAsUsed(t, s, u, []string{"i0", "i1", "i2", "i3", "i4", "i5", "i6", "i7", "i8"})
		}
		s = amissStore(m, s)
		stepAsByWords(t, s, step{way: stepPut, input: first, output: second})
		stepAsByWords(t, impl.StorePut(s, first, second), step{way: stepGet, input: first})
		stepAsByWords(t, s, step{way: stepDrop, n: room})
		wantDoneByWords(t, task)
		if list := sourcesOf("a", first, "b", second); impl.SetOk(list) {
			wantPromiseOfTasks(t, list)
		}
	})
}
