package tests

import (
	"cmp"
	"math"
	"reflect"
	"slices"
	"strconv"
	"strings"
	"testing"

	"loop.example/g00276/impl"
)

// From here on the document's chapter is told once more, sentence by sentence.

// A wordsSet has what chapter 9 tells of a set: nothing of a list that is none.
type wordsSet struct {
	imports map[string][]string
	circles []string
}

func wordsSetOf(list []impl.Source) wordsSet {
	of := wordsSet{imports: map[string][]string{}}
	if setByWords(list) {
		for _, s := range list {
			of.imports[s.Name], _ = importsByWords(list, s.Name)
		}
		of.circles = graphByWords(list).circles()
	}
	return of
}

func isDoneByWords(f impl.Farm, name string) bool {
	return slices.ContainsFunc(f.Done, func(r impl.Result) bool { return r.Name == name })
}

func (of wordsSet) isReady(f impl.Farm, name string) bool {
	if isDoneByWords(f, name) {
		return false
	}
	for _, imported := range of.imports[name] {
		if !isDoneByWords(f, imported) && !slices.Contains(of.circles, name) {
			return false
		}
	}
	return true
}

func leasesWithout(f impl.Farm, name string) []impl.Lease {
	return slices.DeleteFunc(slices.Clone(f.Leases), func(l impl.Lease) bool { return l.Name == name })
}

func finishByWords(f impl.Farm, r impl.Result) impl.Farm {
	f.Done = append(slices.Clone(f.Done), r)
	slices.SortStableFunc(f.Done, func(a, b impl.Result) int { return cmp.Compare(a.Name, b.Name) })
	f.Leases = leasesWithout(f, r.Name)
	return f
}

func sendByWords(f impl.Farm, p impl.Packet) impl.Farm {
	if len(f.Net) < 200 {
		f.Net = append(slices.Clone(f.Net), p)
	}
	return f
}

func (of wordsSet) tick(f impl.Farm) impl.Farm {
	f.Clock++
	for _, s := range f.Set {
		hasLease := slices.ContainsFunc(f.Leases, func(l impl.Lease) bool { return l.Name == s.Name })
		hasEnded := slices.ContainsFunc(f.Leases, func(l impl.Lease) bool { return l.Name == s.Name && l.Until <= f.Clock })
		if !of.isReady(f, s.Name) || hasLease && !hasEnded {
			continue
		}
		task := impl.TaskOf(f.Set, f.Done, s.Name)
		store, output, found := impl.StoreGet(f.Store, task)
		f.Store = store
		if r, ok := impl.GetResult(output); found && ok && r.Name == s.Name {
			f = finishByWords(f, r)
			continue
		}
		f.Epoch++
		f.Leases = append(leasesWithout(f, s.Name), impl.Lease{Name: s.Name, Epoch: f.Epoch, Until: f.Clock + f.Wait})
		slices.SortStableFunc(f.Leases, func(a, b impl.Lease) int { return cmp.Compare(a.Name, b.Name) })
		if count := len(f.Up); count > 0 {
			to := f.Epoch % count
			if to < 0 {
				to += count
			}
			f = sendByWords(f, impl.Packet{To: to, Epoch: f.Epoch, Body: impl.PutTexts([]string{s.Name, task})})
		}
	}
	return f
}

func (of wordsSet) deliver(f impl.Farm, at int) impl.Farm {
	p := f.Net[at]
	f.Net = slices.Delete(slices.Clone(f.Net), at, at+1)
	texts, ok := impl.GetTexts(p.Body)
	if !ok || len(texts) != 2 {
		return f
	}
	if p.To != -1 {
		if p.To >= 0 && p.To < len(f.Up) && f.Up[p.To] {
			f = sendByWords(f, impl.Packet{To: -1, Epoch: p.Epoch, Body: impl.PutTexts([]string{texts[0], impl.DoTask(texts[1])})})
		}
		return f
	}
	r, ok := impl.GetResult(texts[1])
	if !ok || r.Name != texts[0] || !hasModule(f.Set, r.Name) || !of.isReady(f, r.Name) {
		return f
	}
	task := impl.TaskOf(f.Set, f.Done, r.Name)
	f = finishByWords(f, r)
	f.Store = impl.StorePut(f.Store, task, impl.PutResult(r))
	return f
}

func (of wordsSet) do(f impl.Farm, e impl.Event) impl.Farm {
	isPacket, isWorker := e.At >= 0 && e.At < len(f.Net), e.At >= 0 && e.At < len(f.Up)
	switch {
	case e.Kind == 0:
		return of.tick(f)
	case e.Kind == 1 && isPacket:
		return of.deliver(f, e.At)
	case e.Kind == 2 && isPacket:
		f.Net = slices.Delete(slices.Clone(f.Net), e.At, e.At+1)
	case e.Kind == 3 && isPacket:
		return sendByWords(f, f.Net[e.At])
	case (e.Kind == 4 || e.Kind == 5) && isWorker:
		f.Up = slices.Clone(f.Up)
		f.Up[e.At] = e.Kind == 5
	case e.Kind == 6:
		f.Store = impl.StoreDrop(f.Store, e.At)
	}
	return f
}

func (of wordsSet) run(f impl.Farm, list []impl.Event) impl.Farm {
	if len(list) > 500 {
		return f
	}
	for _, e := range list {
		f = of.do(f, e)
	}
	return f
}

func allDoneByWords(f impl.Farm) bool {
	return !slices.ContainsFunc(f.Set, func(s impl.Source) bool { return !isDoneByWords(f, s.Name) })
}

func (of wordsSet) calm(f impl.Farm) impl.Farm {
	f.Up = slices.Repeat([]bool{true}, len(f.Up))
	if f.Wait < 1 || f.Wait > 50 {
		return f
	}
	for range len(f.Set) + 2 {
		for range f.Wait {
			if allDoneByWords(f) && len(f.Net) == 0 {
				return f
			}
			f = of.tick(f)
			for count := 0; count < 400 && len(f.Net) > 0; count++ {
				f = of.deliver(f, 0)
			}
		}
	}
	return f
}

func farmReportByWords(f impl.Farm) (string, bool) {
	if !allDoneByWords(f) {
		return "", false
	}
	text := ""
	for _, r := range f.Done {
		text += resultTextByWords(r)
	}
	return text, true
}

// doAsByWords does an event, and holds all that is told of it against the chapter's words.
func doAsByWords(t *testing.T, of wordsSet, f impl.Farm, e impl.Event) impl.Farm {
	t.Helper()
	got, want := impl.FarmDo(f, e), of.do(f, e)
	if !sameFarm(got, want) {
		t.Fatalf("%+v makes\n%s\nof\n%s\nwant\n%s", e, farmText(got), farmText(f), farmText(want))
	}
	reportAsByWordsOfFarm(t, got)
	return got
}

func reportAsByWordsOfFarm(t *testing.T, f impl.Farm) {
	t.Helper()
	text, ok := impl.FarmReport(f)
	if want, wanted := farmReportByWords(f); text != want || ok != wanted {
		t.Fatalf("FarmReport = %.300q, %t, want %.300q, %t of\n%s", text, ok, want, wanted, farmText(f))
	}
}

func runAsByWordsOfFarm(t *testing.T, of wordsSet, f impl.Farm, list []impl.Event) impl.Farm {
	t.Helper()
	got, want := impl.FarmRun(f, list), of.run(f, list)
	if !sameFarm(got, want) {
		t.Fatalf("%+v make\n%s\nof\n%s\nwant\n%s", list, farmText(got), farmText(f), farmText(want))
	}
	return got
}

func calmAsByWords(t *testing.T, of wordsSet, f impl.Farm) impl.Farm {
	t.Helper()
	got, want := impl.FarmCalm(f), of.calm(f)
	if !sameFarm(got, want) {
		t.Fatalf("FarmCalm makes\n%s\nof\n%s\nwant\n%s", farmText(got), farmText(f), farmText(want))
	}
	reportAsByWordsOfFarm(t, got)
	return got
}

// A truth is what a single checker tells of a set.
type truth struct {
	list   []impl.Source
	all    []impl.Result
	report string
	of     wordsSet
}

func truthOf(list []impl.Source) *truth {
	return &truth{list, impl.CheckAll(list), impl.Report(list), wordsSetOf(list)}
}

// wantTrue is promise 12 of a farm that began with FarmStart: it tells nothing, or the one report.
func (x *truth) wantTrue(t *testing.T, f impl.Farm) {
	t.Helper()
	text, ok := impl.FarmReport(f)
	if ok && text != x.report || !ok && text != "" || ok != (len(f.Done) == len(x.list)) {
		t.Fatalf("FarmReport = %q, %t, not %q, of\n%s\n%s", text, ok, x.report, farmText(f), wholeSetText(x.list))
	}
	for _, r := range f.Done {
		at, _ := slices.BinarySearchFunc(x.all, r, func(a, b impl.Result) int { return cmp.Compare(a.Name, b.Name) })
		if at == len(x.all) || !sameResult(x.all[at], r) {
			t.Fatalf("%+v is done, of\n%s\n%s", r, farmText(f), wholeSetText(x.list))
		}
	}
	if !slices.Equal(f.Set, x.list) || len(f.Net) > impl.MaxNet || !impl.StoreOk(f.Store) || !isInOrder(f) {
		t.Fatalf("no farm any more:\n%s", farmText(f))
	}
}

func isInOrder(f impl.Farm) bool {
	var done, lent []string
	for _, r := range f.Done {
		done = append(done, r.Name)
	}
	for _, l := range f.Leases {
		lent = append(lent, l.Name)
		if slices.Contains(done, l.Name) || l.Epoch > f.Epoch || l.Until > f.Clock+f.Wait {
			return false
		}
	}
	ascends := func(names []string) bool {
		return slices.IsSorted(names) && len(slices.Compact(slices.Clone(names))) == len(names)
	}
	return ascends(done) && ascends(lent)
}

// wantGoneOn holds what an event may not do: take back what is done, or turn back the clock or the epoch.
func wantGoneOn(t *testing.T, before, after impl.Farm) {
	t.Helper()
	if after.Clock < before.Clock || after.Epoch < before.Epoch || after.Wait != before.Wait || len(after.Up) != len(before.Up) || after.Store.Room != before.Store.Room {
		t.Fatalf("turned back:\n%s\n%s", farmText(before), farmText(after))
	}
	for _, r := range before.Done {
		if !slices.ContainsFunc(after.Done, func(of impl.Result) bool { return sameResult(of, r) }) {
			t.Fatalf("%s is done no more:\n%s\n%s", r.Name, farmText(before), farmText(after))
		}
	}
}

// wantCalm is the promise's end: FarmCalm comes to the report.
func (x *truth) wantCalm(t *testing.T, f impl.Farm) impl.Farm {
	t.Helper()
	c := calmAsByWords(t, x.of, f)
	x.wantTrue(t, c)
	if text, ok := impl.FarmReport(c); !ok || text != x.report || len(c.Net) > 0 || len(c.Leases) > 0 || slices.Contains(c.Up, false) {
		t.Fatalf("behind FarmCalm of\n%s\nis\n%s\nof\n%s", farmText(f), farmText(c), wholeSetText(x.list))
	}
	wantGoneOn(t, f, c)
	return c
}

// A netMaker makes events: how often each kind of them comes hangs on its mood.
type netMaker struct {
	typeMaker
	mood int
}

var netMoods = [][]int{
	{3, 5, 1, 1, 1, 1, 1},  // of everything some
	{3, 8, 0, 0, 0, 0, 0},  // nothing gets lost
	{4, 4, 6, 1, 0, 0, 0},  // most gets lost
	{4, 4, 0, 6, 0, 0, 0},  // very much is doubled
	{3, 6, 1, 0, 4, 1, 0},  // workers crash
	{3, 6, 1, 1, 2, 2, 4},  // much is forgotten
	{14, 2, 0, 2, 0, 0, 0}, // time goes by
}

func (m *netMaker) event(f impl.Farm) impl.Event {
	weights := netMoods[m.mood%len(netMoods)]
	sum := 0
	for _, weight := range weights {
		sum += weight
	}
	e, left := impl.Event{}, m.next(sum)
	for left >= weights[e.Kind] {
		left -= weights[e.Kind]
		e.Kind++
	}
	places := len(f.Net)
	switch e.Kind {
	case impl.EvTick:
		places = 1
	case impl.EvCrash, impl.EvUp:
		places = len(f.Up)
	case impl.EvForget:
		places = 4
	}
	e.At = m.next(max(1, places))
	if m.next(40) == 0 {
		e.At += []int{1, 2, -1, -2, 100, 101, 200, math.MaxInt / 2, math.MinInt / 2}[m.next(9)]
	}
	if m.next(60) == 0 {
		e.Kind = []int{-1, 7, 8, math.MaxInt, math.MinInt}[m.next(5)]
	}
	return e
}

func newNet(seed uint64, events int) *netMaker {
	m := &netMaker{typeMaker: typeMaker{bytes: someBytes(seed, events*4+20)}}
	m.mood = m.next(250)
	return m
}

func (m *netMaker) workers() int { return []int{1, 1, 2, 3, 5, 8, 29, mostWorkers}[m.next(8)] }
func (m *netMaker) wait() int    { return []int{1, 1, 2, 3, 4, 7, 49, mostWait}[m.next(8)] }
func (m *netMaker) room() int    { return []int{0, 1, 2, 5, 50, greatestRoom}[m.next(6)] }

// wantRun lets a farm run by made events, one by one and all at once, and holds each step against the promise.
func (x *truth) wantRun(t *testing.T, m *netMaker, f impl.Farm, events int) impl.Farm {
	t.Helper()
	began := f
	var list []impl.Event
	for range events {
		e := m.event(f)
		list = append(list, e)
		after := doAsByWords(t, x.of, f, e)
		x.wantTrue(t, after)
		wantGoneOn(t, f, after)
		f = after
	}
	if all := impl.FarmRun(began, list); !sameFarm(all, f) {
		t.Fatalf("FarmRun makes\n%s\nnot\n%s", farmText(all), farmText(f))
	}
	return f
}

// wantPromiseOfFarms lets a farm run and come to calm, and then others with the store that it had.
func wantPromiseOfFarms(t *testing.T, seed uint64, list []impl.Source, events int) (ran, calm impl.Farm) {
	t.Helper()
	x := truthOf(list)
	m := newNet(seed, 2*events)
	f := mustStart(t, list, m.workers(), m.wait(), impl.Store{Room: m.room()})
	x.wantTrue(t, f)
	ran = x.wantRun(t, m, f, events)
	calm = x.wantCalm(t, ran)
	store := ran.Store
	if m.next(2) == 0 {
		store = calm.Store
	}
	next := mustStart(t, list, m.workers(), m.wait(), store)
	m.mood = m.next(250)
	x.wantCalm(t, x.wantRun(t, m, next, events/3))
	// another set with the same store: some modules are others, and those that import them stayed
	if len(list) > 0 {
		other := slices.Clone(list)
		at := m.next(len(list))
		other[at].Text = []string{"", "let v1 = 1\nlet v = true", "let", "import " + list[m.next(len(list))].Name}[m.next(4)]
		y := truthOf(other)
		y.wantCalm(t, y.wantRun(t, m, mustStart(t, other, m.workers(), m.wait(), store), events/3))
	}
	return ran, calm
}

func TestFarmsOfSetsThatAreMadeTellTheSingleCheckersReport(t *testing.T) {
	early, late, sent := 0, 0, 0
	seed := uint64(1000)
	madeReports(130, func(m *reportMaker, list []impl.Source) {
		seed++
		ran, calm := wantPromiseOfFarms(t, seed, list, 60)
		if len(ran.Done) == len(list) {
			early++
		} else {
			late++
		}
		sent += calm.Epoch
	})
	if early < 20 || late < 50 || sent < 800 {
		t.Error("the test's farms are of one sort:", early, late, sent)
	}
}

func TestFarmsOfManyModulesTellTheSingleCheckersReport(t *testing.T) {
	early, late, circles := 0, 0, 0
	for seed := range uint64(120) {
		m := &setMaker{typeMaker{bytes: someBytes(seed+141414, 500)}}
		list := m.set()
		ran, _ := wantPromiseOfFarms(t, seed+5000, list, 80)
		if len(ran.Done) == len(list) {
			early++
		} else {
			late++
		}
		if len(impl.Circles(list)) > 0 {
			circles++
		}
	}
	if early < 10 || late < 30 || circles < 20 {
		t.Error("the test's farms are of one sort:", early, late, circles)
	}
	wantPromiseOfFarms(t, 1, rowOf(impl.MaxModules, ""), 300)
	wantPromiseOfFarms(t, 2, nil, 20)
	wantPromiseOfFarms(t, 3, greatSet(6, 5), 60)
	wantPromiseOfFarms(t, 4, sourcesOf("a", unparsed()[0], "b", strings.Repeat("#", greatestText), "c", "import a import b let v = a.v + b.v"), 60)
}

func TestFarmsOfEachSetOfThreeModulesTellTheSingleCheckersReport(t *testing.T) {
	reports := map[string]int{}
	count := uint64(0)
	eachNumbers(3, 17, func(bits []int) {
		count++
		list := valuedSet([]string{"a", "b", "c"}, []string{"n"}, bits)
		x := truthOf(list)
		m := newNet(count, 12)
		f := mustStart(t, list, 1+int(count)%3, 1+int(count)%2, impl.Store{Room: int(count) % 4})
		for range 12 {
			f = impl.FarmDo(f, m.event(f))
			x.wantTrue(t, f)
		}
		c := impl.FarmCalm(f)
		x.wantTrue(t, c)
		wantReported(t, c, x.report)
		wantReported(t, impl.FarmCalm(mustStart(t, list, 2, 2, c.Store)), x.report)
		reports[x.report]++
	})
	if len(reports) < 60 {
		t.Error("the test's sets are of one sort:", len(reports))
	}
}

// Each short run over two modules of which one imports the other, with nothing left out.
func TestEachShortRunOfAFarm(t *testing.T) {
	x := truthOf(sourcesOf("a", "import b\nlet x = b.v", "b", "let v = 1"))
	events := []impl.Event{tick, deliver(0), deliver(1), drop(0), twice(0), crash(0), up(0), forget(1)}
	told, runs := 0, 0
	var goOn func(f impl.Farm, left int)
	goOn = func(f impl.Farm, left int) {
		if left == 0 {
			runs++
			if _, ok := impl.FarmReport(f); ok {
				told++
			}
			if runs%5 == 0 {
				x.wantCalm(t, f)
			}
			return
		}
		for _, e := range events {
			after := doAsByWords(t, x.of, f, e)
			x.wantTrue(t, after)
			wantGoneOn(t, f, after)
			goOn(after, left-1)
		}
	}
	for wait := 1; wait <= 2; wait++ {
		for workers := 1; workers <= 2; workers++ {
			goOn(mustStart(t, x.list, workers, wait, impl.Store{Room: 2}), 4)
		}
	}
	// from behind the first result on, with what is needed to come to the second one
	f := impl.FarmRun(mustStart(t, x.list, 1, 1, impl.Store{Room: 2}), []impl.Event{tick, twice(0), deliver(0), deliver(1)})
	if len(f.Done) != 1 {
		t.Fatal(farmText(f))
	}
	goOn(f, 5)
	if told < 10 || runs < 40000 {
		t.Error("the test's runs are of one sort:", told, runs)
	}
}

// Long runs in which more is sent than the net may have.
func TestFarmsWithAFullNet(t *testing.T) {
	full, runs := 0, 0
	for seed := range uint64(24) {
		list := setFrom("a b", "b", "c", "d a c", "e", "f f")
		x := truthOf(list)
		m := newNet(seed+31337, mostEvents)
		m.mood = []int{3, 6}[seed%2]
		f := mustStart(t, list, m.workers(), 1+m.next(2), impl.Store{Room: m.room()})
		var events []impl.Event
		began := f
		for i := range mostEvents {
			e := m.event(f)
			// what is doubled is still under way to a worker, so that little gets done
			if e.Kind == impl.EvDeliver && i < 400 {
				e.Kind = impl.EvTwice
			}
			f = impl.FarmDo(f, e)
			events = append(events, e)
			if len(f.Net) == impl.MaxNet {
				full++
			}
			if i%50 == 0 {
				x.wantTrue(t, f)
			}
		}
		if got := runAsByWordsOfFarm(t, x.of, began, events); !sameFarm(got, f) {
			t.Fatalf("FarmRun makes\n%s\nnot\n%s", farmText(got), farmText(f))
		}
		wantFarm(t, "one event more", impl.FarmRun(began, append(events, tick)), began)
		x.wantTrue(t, f)
		x.wantCalm(t, f)
		runs++
	}
	if full < 40*runs {
		t.Error("the test's nets have room left:", full, runs)
	}
}

// amissFarm is a farm with something in it that no farm would have that began with FarmStart.
func amissFarm(m *typeMaker, f impl.Farm) impl.Farm {
	f.Set, f.Up, f.Leases, f.Done, f.Net = slices.Clone(f.Set), slices.Clone(f.Up), slices.Clone(f.Leases), slices.Clone(f.Done), slices.Clone(f.Net)
	number := func() int {
		return []int{0, 1, 2, 3, -1, -7, 49, 50, 51, 1000, f.Clock, f.Clock + 1, f.Clock - 1, -1 << 40, 1 << 40}[m.next(15)]
	}
	names := []string{"a", "b", "c", "d", "e", "f", "z", ""}
	switch m.next(12) {
	case 0:
		f.Wait = number()
	case 1:
		f.Clock = number()
	case 2:
		f.Epoch = number()
	case 3:
		f.Up = make([]bool, []int{0, 0, 1, 2, 31, 60}[m.next(6)])
	case 4:
		slices.Reverse(f.Leases)
		f.Leases = append(f.Leases, impl.Lease{Name: names[m.next(8)], Epoch: number(), Until: number()})
	case 5:
		slices.Reverse(f.Done)
		f.Done = append(f.Done, resultOf(dark(names[m.next(8)])))
	case 6:
		f.Done = append([]impl.Result{{Name: names[m.next(8)]}}, f.Done...)
	case 7:
		for range 1 + m.next(3) {
			f.Net = append(f.Net, amissPacket(m, f, names))
		}
	case 8:
		f.Net = slices.Repeat(append(f.Net, impl.Packet{To: m.next(3), Body: "\x02\x00\x00"}), 1+m.next(150))
		f.Net = f.Net[:min(len(f.Net), impl.MaxNet+3)]
	case 9:
		slices.Reverse(f.Set)
		if m.next(2) == 0 {
			f.Set = append(f.Set, f.Set...)
		}
	case 10:
		f.Set = append(f.Set, impl.Source{Name: names[m.next(8)], Text: "import a\nlet v = 1"})
	case 11:
		f.Store = amissStore(m, f.Store)
		if m.next(2) == 0 {
			f.Store = impl.StorePut(f.Store, "", impl.PutResult(resultOf(dark(names[m.next(8)]))))
		}
	}
	return f
}

func amissPacket(m *typeMaker, f impl.Farm, names []string) impl.Packet {
	name := names[m.next(8)]
	p := impl.Packet{To: []int{-1, -1, -1, 0, 1, 2, 31, -2, math.MaxInt, math.MinInt}[m.next(10)], Epoch: m.next(9) - 3}
	switch m.next(6) {
	case 0:
		p.Body = impl.PutTexts([]string{name, impl.PutResult(resultOf(dark(name)))})
	case 1:
		p.Body = impl.PutTexts([]string{name, impl.PutResult(resultOf(dark(names[m.next(8)])))})
	case 2:
		p.Body = impl.PutTexts([]string{name, impl.TaskOf(f.Set, f.Done, name)})
	case 3:
		p.Body = impl.PutTexts([]string{name, impl.DoTask(impl.TaskOf(f.Set, f.Done, name)), ""}[:1+m.next(3)])
	case 4:
		p.Body = changed(m, impl.PutTexts([]string{name, impl.DoTask(impl.TaskOf(f.Set, f.Done, name))}))
	}
	return p
}

func TestFarmsWithSomethingAmissAsTheWordsTell(t *testing.T) {
	reported, calm := 0, 0
	hold := func(seed uint64, list []impl.Source) {
		m := newNet(seed, 60)
		f := mustStart(t, list, m.workers(), m.wait(), impl.Store{Room: m.room()})
		for range m.next(30) {
			f = impl.FarmDo(f, m.event(f))
		}
		for range 1 + m.next(3) {
			f = amissFarm(&m.typeMaker, f)
		}
		of := wordsSetOf(f.Set)
		began := f
		var events []impl.Event
		for range 15 {
			e := m.event(f)
			f = doAsByWords(t, of, f, e)
			events = append(events, e)
		}
		if got := runAsByWordsOfFarm(t, of, began, events); !sameFarm(got, f) {
			t.Fatalf("FarmRun makes\n%s\nnot\n%s", farmText(got), farmText(f))
		}
		if f = calmAsByWords(t, of, f); len(f.Net) == 0 {
			calm++
		}
		if _, ok := impl.FarmReport(f); ok {
			reported++
		}
	}
	for seed := range uint64(500) {
		m := &setMaker{typeMaker{bytes: someBytes(seed+232323, 500)}}
		list := m.set()
		hold(seed+7000, list[:min(len(list), 5)])
		hold(seed+9000, []impl.Source{{Name: "a", Text: "import b"}, {Name: "b", Text: "let v = 1"}, {Name: "c", Text: "import c"}, {Name: "d", Text: "import a import lost"}}[:m.next(5)])
	}
	seed := uint64(40000)
	madeReports(60, func(m *reportMaker, list []impl.Source) {
		seed++
		hold(seed, list)
	})
	if reported < 300 || calm < 700 {
		t.Error("the test's farms are of one sort:", reported, calm)
	}
}

// Of lists that are no sets FarmCalm only makes leases; there may be more rounds than anyone could wait for.
func TestCalmOfWhatIsNoSet(t *testing.T) {
	for seed := range uint64(700) {
		m := newNet(seed+60606, 40)
		f := impl.Farm{Wait: 1 + m.next(7), Up: make([]bool, m.next(4)), Clock: []int{0, 3, -20, 1 << 40}[m.next(4)], Epoch: m.next(9) - 4, Store: impl.Store{Room: 3}}
		names := []string{"b", "a", "c", "", "e", "d", "a.b"}
		for range 2 + m.next(7) {
			f.Set = append(f.Set, impl.Source{Name: names[m.next(7)], Text: "import a"})
		}
		f.Set = append(f.Set, impl.Source{Name: "let"})
		for range m.next(5) {
			f.Leases = append(f.Leases, impl.Lease{Name: names[m.next(7)], Epoch: m.next(5), Until: f.Clock + m.next(90) - 5})
		}
		for range m.next(3) {
			f.Done = append(f.Done, resultOf(dark(names[m.next(7)])))
		}
		if m.next(3) == 0 {
			f.Net = append(f.Net, impl.Packet{To: -1, Body: impl.PutTexts([]string{"c", impl.PutResult(resultOf(dark("c")))})}, impl.Packet{})
		}
		if m.next(3) == 0 {
			f.Store = impl.StorePut(impl.StorePut(f.Store, "", impl.PutResult(resultOf(dark("d")))), "x", "1")
		}
		if m.next(30) == 0 {
			f.Clock = math.MaxInt - m.next(60)
		}
		calmAsByWords(t, wordsSetOf(f.Set), f)
	}
	const count = 100000
	f := impl.Farm{Set: make([]impl.Source, count), Wait: mostWait, Up: []bool{false}}
	if c := impl.FarmCalm(f); c.Clock != (count+2)*mostWait || c.Epoch != count+2 || len(c.Leases) != 1 || c.Leases[0].Epoch != c.Epoch || !c.Up[0] {
		t.Errorf("very many of one name: clock %d, epoch %d, %d leases", c.Clock, c.Epoch, len(c.Leases))
	}
	for i := range f.Set {
		f.Set[i].Name = "n" + strconv.Itoa(2*count-i)
	}
	c := impl.FarmCalm(f)
	if c.Clock != (count+2)*mostWait || c.Epoch != count*(count+2) || len(c.Leases) != count || c.Leases[0] != (impl.Lease{Name: "n100001", Epoch: c.Epoch, Until: c.Clock + 1}) || len(c.Net) != 0 {
		t.Errorf("very many: clock %d, epoch %d, %d leases, the first %+v", c.Clock, c.Epoch, len(c.Leases), c.Leases[0])
	}
}

func (m *memoryOf) addFarm(f impl.Farm) {
	m.addSources(f.Set)
	f.Up, f.Leases, f.Net = f.Up[:cap(f.Up)], f.Leases[:cap(f.Leases)], f.Net[:cap(f.Net)]
	for i := range f.Up {
		m.places[&f.Up[i]]++
	}
	for i := range f.Leases {
		m.places[&f.Leases[i]]++
		m.texts = append(m.texts, f.Leases[i].Name)
	}
	for i := range f.Net {
		m.places[&f.Net[i]]++
		m.texts = append(m.texts, f.Net[i].Body)
	}
	m.addResults(f.Done)
	m.addItems(f.Store.Items)
}

// roomyFarm has room behind each of its lists, in which something stands.
func roomyFarm(f impl.Farm) impl.Farm {
	out := f
	out.Set, out.Leases, out.Done, out.Net = nil, nil, nil, nil
	for _, s := range f.Set {
		out.Set = append(out.Set, impl.Source{Name: strings.Clone(s.Name), Text: strings.Clone(s.Text)})
	}
	out.Set = append(out.Set, impl.Source{Name: "spare"})[:len(f.Set)]
	out.Up = append(slices.Clone(f.Up), true, false, true)[:len(f.Up)]
	for _, l := range f.Leases {
		l.Name = strings.Clone(l.Name)
		out.Leases = append(out.Leases, l)
	}
	out.Leases = append(out.Leases, impl.Lease{Name: "spare"}, impl.Lease{})[:len(f.Leases)]
	for _, r := range f.Done {
		out.Done = append(out.Done, roomyResult(r))
	}
	out.Done = append(out.Done, resultOf(dark("spare")), impl.Result{})[:len(f.Done)]
	for _, p := range f.Net {
		p.Body = strings.Clone(p.Body)
		out.Net = append(out.Net, p)
	}
	out.Net = append(out.Net, impl.Packet{Body: "spare"}, impl.Packet{})[:len(f.Net)]
	out.Store = roomyStore(f.Store)
	return out
}

// wantNewFarms calls each function of the chapter with lists that have room behind them.
func wantNewFarms(t *testing.T, of impl.Farm, events ...impl.Event) {
	t.Helper()
	f := roomyFarm(of)
	list := append(slices.Clone(events), tick, deliver(77))[:len(events)]
	all := func() any { return wholeModule(reflect.ValueOf([]any{f, list})).Interface() }
	before := all()
	given := newMemory()
	given.addFarm(f)
	look := func(what string, add func(a *memoryOf)) {
		t.Helper()
		answer := newMemory()
		add(answer)
		wantNewMemory(t, what, answer, given)
	}
	for _, e := range events {
		look("FarmDo", func(a *memoryOf) { a.addFarm(impl.FarmDo(f, e)) })
	}
	look("FarmRun", func(a *memoryOf) { a.addFarm(impl.FarmRun(f, list)) })
	look("FarmRun of too many", func(a *memoryOf) { a.addFarm(impl.FarmRun(f, make([]impl.Event, mostEvents+1))) })
	look("FarmCalm", func(a *memoryOf) { a.addFarm(impl.FarmCalm(f)) })
	look("FarmReport", func(a *memoryOf) {
		text, _ := impl.FarmReport(f)
		a.texts = append(a.texts, text)
	})
	look("FarmStart", func(a *memoryOf) {
		g, _ := impl.FarmStart(f.Set, 3, 3, f.Store)
		a.addFarm(g)
	})
	if !reflect.DeepEqual(all(), before) {
		t.Fatalf("written into\n%s", farmText(of))
	}
	first, second := newMemory(), newMemory()
	first.addFarm(impl.FarmRun(f, list))
	second.addFarm(impl.FarmRun(f, list))
	wantNewMemory(t, "FarmRun twice", first, second)
}

func TestNothingIsWrittenIntoFarmsAndAnswersAreNew(t *testing.T) {
	events := []impl.Event{tick, deliver(0), deliver(1), deliver(2), drop(0), drop(1), twice(0), twice(1), crash(0), up(0), forget(0), forget(1), forget(101), {Kind: 9}, deliver(-1)}
	seed := uint64(0)
	hold := func(list []impl.Source) {
		seed++
		m := newNet(seed+4711, 60)
		f := mustStart(t, list, m.workers(), 1+m.next(5), impl.Store{Room: 1 + m.next(5)})
		for range m.next(40) {
			f = impl.FarmDo(f, m.event(f))
		}
		wantNewFarms(t, f, events...)
		wantNewFarms(t, amissFarm(&m.typeMaker, f), events...)
	}
	hold(nil)
	for range 12 {
		hold(smallSet())
		hold(setFrom("a d none b", "b c", "c", "d e", "e d c", "f d", "g b c"))
	}
	madeReports(40, func(m *reportMaker, list []impl.Source) { hold(list) })
	// one list of faults, one of types and one text in many places of a farm
	shared := recordT("x", nameT("m.T"))
	wrong := []impl.Diag{{Line: 1, Code: strings.Clone("plus")}, {Line: 2, Code: strings.Clone("if")}}
	env := []impl.Named{{Name: strings.Clone("m.T"), Type: fnT(shared, shared)}}
	r := impl.Result{Name: strings.Clone("m"), Diags: wrong, Summary: impl.Summary{Name: strings.Clone("m"), Types: env, Exports: env}}
	f := impl.Farm{Set: smallSet(), Wait: 2, Up: []bool{true}, Done: []impl.Result{r, r, r}, Net: slices.Repeat([]impl.Packet{{To: 4, Body: strings.Clone("body")}}, 5)}
	given := newMemory()
	given.addFarm(f)
	for _, e := range []impl.Event{tick, drop(1), twice(0), forget(0), {Kind: 9}} {
		answer := newMemory()
		answer.addFarm(impl.FarmDo(f, e))
		wantNewMemory(t, "FarmDo", answer, given)
	}
}

// oddFarms are farms of which no memory holds all parts one by one, or which are within themselves.
func oddFarms(t *testing.T) map[string]impl.Farm {
	t.Helper()
	// so many long texts, or lists, have more bytes than an answer may take
	const many = 10000
	long := strings.Repeat("x", 1000000)
	list := smallSet()
	within := withinItself()
	great := greatType(nameT("m.T"), impl.MaxDeep)
	faults := slices.Repeat([]impl.Diag{{Line: 1, Code: "plus"}}, 20*many)
	env := slices.Repeat([]impl.Named{{Name: "m.T", Type: intT}}, 20*many)
	of := func(change func(f *impl.Farm)) impl.Farm {
		f := impl.Farm{Set: list, Wait: 3, Up: []bool{true, true}, Store: impl.Store{Room: 5}}
		change(&f)
		return f
	}
	farms := map[string]impl.Farm{
		"one text in many packets": of(func(f *impl.Farm) { f.Net = slices.Repeat([]impl.Packet{{To: 0, Body: long}}, many) }),
		"one name in many leases":  of(func(f *impl.Farm) { f.Leases = slices.Repeat([]impl.Lease{{Name: long}}, many) }),
		"one text in many modules": of(func(f *impl.Farm) { f.Set = slices.Repeat([]impl.Source{{Name: "x", Text: long}}, many) }),
		"one text in many items": of(func(f *impl.Farm) {
			f.Store.Items = slices.Repeat([]impl.Item{{Key: long, Input: long, Output: long}}, many)
		}),
		"one name in many results": of(func(f *impl.Farm) { f.Done = slices.Repeat([]impl.Result{{Name: long}}, many) }),
		"one code in many faults": of(func(f *impl.Farm) {
			f.Done = []impl.Result{{Name: "a", Diags: slices.Repeat([]impl.Diag{{Line: 1, Code: long}}, many)}}
		}),
		"many faults in many results": of(func(f *impl.Farm) { f.Done = slices.Repeat([]impl.Result{{Name: "a", Diags: faults}}, 10*many) }),
		"many exports in many results": of(func(f *impl.Farm) {
			f.Done = slices.Repeat([]impl.Result{{Name: "a", Summary: impl.Summary{Exports: env, Types: env}}}, 10*many)
		}),
		"one name in many exports": of(func(f *impl.Farm) {
			f.Done = []impl.Result{{Name: "b", Summary: impl.Summary{Name: "b", Exports: slices.Repeat([]impl.Named{{Name: long}}, many)}}}
		}),
		"one name in many types": of(func(f *impl.Farm) {
			f.Done = []impl.Result{{Name: "b", Summary: impl.Summary{Name: "b", Exports: []impl.Named{{Name: "v", Type: fnT(slices.Repeat([]impl.Type{nameT(long)}, many)...)}}}}}
		}),
		"a great type": of(func(f *impl.Farm) {
			f.Done = []impl.Result{resultOf(impl.Summary{Name: "b", Types: []impl.Named{{Name: "m.T", Type: great}}, Exports: []impl.Named{{Name: "v", Type: great}}})}
		}),
		"many workers": of(func(f *impl.Farm) { f.Up = make([]bool, 1000000) }),
	}
	for i, x := range within {
		farms["within itself "+strconv.Itoa(i)] = of(func(f *impl.Farm) {
			f.Done = []impl.Result{{Name: "b", Summary: impl.Summary{Name: "b", Exports: []impl.Named{{Name: "v", Type: x}}}}}
		})
	}
	return farms
}

func TestAnyFarmIsAnswered(t *testing.T) {
	for what, f := range oddFarms(t) {
		for _, e := range []impl.Event{tick, twice(0), forget(1), {Kind: 9}, {Kind: math.MinInt, At: math.MinInt}} {
			g := impl.FarmDo(f, e)
			if len(g.Done) != len(f.Done) || len(g.Set) != len(f.Set) || len(g.Up) != len(f.Up) || len(g.Store.Items) != len(f.Store.Items) || len(g.Leases) < len(f.Leases) || len(g.Net) < len(f.Net) {
				t.Errorf("%s: %+v makes another farm", what, e)
			}
			if len(f.Done) > 0 && (g.Done[0].Name != f.Done[0].Name || !slices.Equal(g.Done[0].Diags, f.Done[0].Diags) || len(g.Done[0].Summary.Exports) != len(f.Done[0].Summary.Exports)) {
				t.Errorf("%s: %+v makes another result", what, e)
			}
			if len(f.Done) > 0 && (&g.Done[0] == &f.Done[0] || len(f.Done[0].Diags) > 0 && &g.Done[0].Diags[0] == &f.Done[0].Diags[0]) {
				t.Errorf("%s: %+v shares a list", what, e)
			}
		}
		impl.FarmRun(f, slices.Repeat([]impl.Event{tick, deliver(0), drop(0)}, 20))
		if c := impl.FarmCalm(f); slices.Contains(c.Up, false) || c.Clock < f.Clock {
			t.Errorf("%s: FarmCalm", what)
		}
		impl.FarmReport(f)
		f.Set = nil
		if text, ok := impl.FarmReport(f); !ok || text != "" && len(text) < len(f.Done) {
			t.Errorf("%s: FarmReport of %d bytes", what, len(text))
		}
		impl.FarmStart(f.Set, len(f.Up), f.Wait, f.Store)
	}
	for seed := range uint64(3000) {
		m := newNet(seed+90909, 40)
		body := string(someBytes(seed, 60))
		f := impl.Farm{Set: smallSet(), Wait: 3, Up: []bool{true, false}, Net: []impl.Packet{{To: -1, Body: body}, {To: 0, Body: body}, {To: -1, Body: "\x02\x01b" + body}, {To: 0, Body: "\x02\x01b" + body}}}
		f = impl.FarmRun(f, []impl.Event{deliver(0), deliver(0), deliver(0), deliver(0), deliver(0), deliver(0)})
		if len(f.Net) > 2 || len(f.Done) > 0 {
			t.Fatalf("by %q:\n%s", body, farmText(f))
		}
		f.Clock, f.Epoch, f.Wait = math.MaxInt-m.next(3), math.MaxInt-m.next(3), math.MaxInt-m.next(3)
		impl.FarmRun(f, []impl.Event{tick, tick, tick, tick})
		f.Wait = 1 + m.next(50)
		impl.FarmCalm(f)
	}
	impl.FarmRun(impl.Farm{}, make([]impl.Event, 1000000))
}

func FuzzFarm(f *testing.F) {
	const between = "--\n"
	madeReports(5, func(m *reportMaker, list []impl.Source) {
		var texts []string
		for _, s := range list {
			texts = append(texts, s.Text)
		}
		f.Add(strings.Join(texts, between), uint64(len(texts)), "\x02\x01a\x00", 1)
	})
	f.Fuzz(func(t *testing.T, texts string, seed uint64, body string, number int) {
		var list []impl.Source
		for i, s := range strings.SplitN(texts, between, 5) {
			list = append(list, impl.Source{Name: string(rune('a' + i)), Text: s[:min(len(s), greatestText)]})
		}
		ran, _ := wantPromiseOfFarms(t, seed, list, 30)
		m := newNet(seed, 60)
		for range 2 {
			ran = amissFarm(&m.typeMaker, ran)
		}
		ran.Net = append(ran.Net, impl.Packet{To: number, Epoch: number, Body: body}, impl.Packet{To: -1, Body: body})
		ran.Leases = append(ran.Leases, impl.Lease{Name: "a", Epoch: number, Until: number})
		of := wordsSetOf(ran.Set)
		for range 10 {
			ran = doAsByWords(t, of, ran, m.event(ran))
		}
		doAsByWords(t, of, ran, impl.Event{Kind: number, At: number})
		if len(ran.Net) < 2000 {
			calmAsByWords(t, of, ran)
		}
	})
}
