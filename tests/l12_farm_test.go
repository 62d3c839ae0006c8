package tests

import (
	"math"
	"slices"
	"strconv"
	"strings"
	"testing"

	"loop.example/g00276/impl"
)

const (
	mostWorkers   = 30
	mostWait      = 50
	mostEvents    = 500
	toCoordinator = -1
)

var tick = impl.Event{Kind: impl.EvTick}

func deliver(at int) impl.Event { return impl.Event{Kind: impl.EvDeliver, At: at} }
func drop(at int) impl.Event    { return impl.Event{Kind: impl.EvDrop, At: at} }
func twice(at int) impl.Event   { return impl.Event{Kind: impl.EvTwice, At: at} }
func crash(at int) impl.Event   { return impl.Event{Kind: impl.EvCrash, At: at} }
func up(at int) impl.Event      { return impl.Event{Kind: impl.EvUp, At: at} }
func forget(n int) impl.Event   { return impl.Event{Kind: impl.EvForget, At: n} }

// smallSet has one module that imports another, and one that is wrong.
func smallSet() []impl.Source {
	return sourcesOf("a", "import b\nlet x = b.v + 1\n", "b", "let v = 1\n", "c", "let w = 1 + true\n")
}

func mustStart(t *testing.T, list []impl.Source, workers, wait int, store impl.Store) impl.Farm {
	t.Helper()
	f, ok := impl.FarmStart(list, workers, wait, store)
	if !ok {
		t.Fatalf("no farm begins with %d workers, wait %d, %s and\n%s", workers, wait, storeText(store), setText(list))
	}
	return f
}

func sameFarm(a, b impl.Farm) bool {
	return slices.Equal(a.Set, b.Set) && a.Wait == b.Wait && slices.Equal(a.Up, b.Up) && a.Clock == b.Clock && a.Epoch == b.Epoch &&
		slices.Equal(a.Leases, b.Leases) && sameResults(a.Done, b.Done) && slices.Equal(a.Net, b.Net) && sameStore(a.Store, b.Store)
}

// farmText shows as much of a farm as one can read.
func farmText(f impl.Farm) string {
	text := "clock " + strconv.Itoa(f.Clock) + " epoch " + strconv.Itoa(f.Epoch) + " wait " + strconv.Itoa(f.Wait) + " set"
	for _, s := range f.Set[:min(len(f.Set), 30)] {
		text += " " + s.Name[:min(len(s.Name), 15)]
	}
	text += " up "
	for _, is := range f.Up {
		text += strings.ToUpper(strconv.FormatBool(is)[:1])
	}
	text += "\nleases"
	for _, l := range f.Leases[:min(len(f.Leases), 30)] {
		text += " " + l.Name[:min(len(l.Name), 15)] + "/" + strconv.Itoa(l.Epoch) + "/" + strconv.Itoa(l.Until)
	}
	text += "\ndone"
	for _, r := range f.Done[:min(len(f.Done), 30)] {
		text += " " + strings.TrimSpace(impl.ResultText(r)) + ";"
	}
	text += "\nnet"
	for _, p := range f.Net[:min(len(f.Net), 30)] {
		text += " " + strconv.Itoa(p.To) + "/" + strconv.Itoa(p.Epoch) + "/" + strconv.Quote(p.Body[:min(len(p.Body), 12)])
	}
	return text + "\nstore " + storeText(f.Store)
}

func wantFarm(t *testing.T, what string, got, want impl.Farm) {
	t.Helper()
	if !sameFarm(got, want) {
		t.Errorf("%s:\n%s\nwant\n%s", what, farmText(got), farmText(want))
	}
}

// wantDoes holds what an event makes of a farm against another farm.
func wantDoes(t *testing.T, what string, f impl.Farm, e impl.Event, want impl.Farm) {
	t.Helper()
	wantFarm(t, what, impl.FarmDo(f, e), want)
}

// taskPacket is what a tick sends to a worker.
func taskPacket(f impl.Farm, name string, to, epoch int) impl.Packet {
	return impl.Packet{To: to, Epoch: epoch, Body: impl.PutTexts([]string{name, impl.TaskOf(f.Set, f.Done, name)})}
}

// checked is the result of a module by a single checker.
func checked(t *testing.T, list []impl.Source, name string) impl.Result {
	t.Helper()
	for _, r := range impl.CheckAll(list) {
		if r.Name == name {
			return r
		}
	}
	t.Fatalf("there is no %s", name)
	return impl.Result{}
}

// resultPacket is what a worker sends to the coordinator.
func resultPacket(t *testing.T, f impl.Farm, name string, epoch int) impl.Packet {
	t.Helper()
	return impl.Packet{To: toCoordinator, Epoch: epoch, Body: impl.PutTexts([]string{name, impl.PutResult(checked(t, f.Set, name))})}
}

// withDone has some modules done as a single checker tells them.
func withDone(t *testing.T, f impl.Farm, names ...string) impl.Farm {
	t.Helper()
	f.Done = slices.Clone(f.Done)
	for _, name := range names {
		f.Done = append(f.Done, checked(t, f.Set, name))
	}
	return f
}

func wantReported(t *testing.T, f impl.Farm, want string) {
	t.Helper()
	if got, ok := impl.FarmReport(f); !ok || got != want {
		t.Errorf("FarmReport = %q, %t, want %q of\n%s", got, ok, want, farmText(f))
	}
}

func wantNotReported(t *testing.T, f impl.Farm) {
	t.Helper()
	if got, ok := impl.FarmReport(f); ok || got != "" {
		t.Errorf("FarmReport = %q, %t of\n%s", got, ok, farmText(f))
	}
}

func TestFarmsBegin(t *testing.T) {
	list := smallSet()
	store := storeOf(3, "i=1 k=2")
	for workers := 1; workers <= mostWorkers; workers++ {
		for _, wait := range []int{1, 2, 49, mostWait} {
			want := impl.Farm{Set: list, Wait: wait, Up: slices.Repeat([]bool{true}, workers), Store: store}
			wantFarm(t, "FarmStart", mustStart(t, list, workers, wait, store), want)
		}
	}
	for _, store := range []impl.Store{{}, {Room: 100}, fullStore(greatestRoom, greatestRoom)} {
		wantFarm(t, "FarmStart", mustStart(t, list, 1, 1, store), impl.Farm{Set: list, Wait: 1, Up: []bool{true}, Store: store})
	}
	for _, list := range [][]impl.Source{nil, {}, rowOf(impl.MaxModules, ""), sourcesOf("a", "let"), sourcesOf("a", strings.Repeat("#", greatestText))} {
		wantFarm(t, "FarmStart", mustStart(t, list, 2, 3, impl.Store{}), impl.Farm{Set: list, Wait: 3, Up: []bool{true, true}})
	}
}

func wantNoStart(t *testing.T, what string, list []impl.Source, workers, wait int, store impl.Store) {
	t.Helper()
	if f, ok := impl.FarmStart(list, workers, wait, store); ok || !sameFarm(f, impl.Farm{}) {
		t.Errorf("%s: FarmStart with %d workers, wait %d is %t,\n%s", what, workers, wait, ok, farmText(f))
	}
}

func TestFarmsThatDoNotBegin(t *testing.T) {
	list := smallSet()
	for _, wrong := range []int{0, -1, math.MinInt, math.MaxInt} {
		wantNoStart(t, "workers", list, wrong, 3, impl.Store{})
		wantNoStart(t, "wait", list, 3, wrong, impl.Store{})
	}
	wantNoStart(t, "one worker more", list, mostWorkers+1, 3, impl.Store{})
	wantNoStart(t, "one tick more", list, 3, mostWait+1, impl.Store{})
	for what, list := range wrongSets() {
		wantNoStart(t, what, list, 3, 3, impl.Store{Room: 9})
	}
	for what, store := range wrongStores() {
		wantNoStart(t, what, list, 3, 3, store)
	}
}

func TestAFarmOfOneModule(t *testing.T) {
	list := sourcesOf("m", "let v = 1\n")
	for workers := 1; workers <= mostWorkers; workers++ {
		f := mustStart(t, list, workers, 3, impl.Store{Room: 2})
		wantNotReported(t, f)
		want := f
		want.Clock, want.Epoch = 1, 1
		want.Leases = []impl.Lease{{Name: "m", Epoch: 1, Until: 4}}
		want.Net = []impl.Packet{taskPacket(f, "m", 1%workers, 1)}
		f = impl.FarmDo(f, tick)
		wantFarm(t, "a tick", f, want)
		want.Net = []impl.Packet{resultPacket(t, f, "m", 1)}
		f = impl.FarmDo(f, deliver(0))
		wantFarm(t, "a task that is delivered", f, want)
		wantNotReported(t, f)
		want.Net, want.Leases = nil, nil
		want.Done = impl.CheckAll(list)
		want.Store.Items = []impl.Item{itemOf(impl.TaskOf(list, nil, "m"), impl.PutResult(want.Done[0]))}
		f = impl.FarmDo(f, deliver(0))
		wantFarm(t, "a result that is delivered", f, want)
		wantReported(t, f, "m: ok\n")
		// what is done has no task any more
		want.Clock = 2
		wantDoes(t, "a tick behind all", f, tick, want)
		want.Clock = 1
		wantFarm(t, "FarmCalm behind all", impl.FarmCalm(f), want)
	}
}

func TestAFarmWithNothingToDo(t *testing.T) {
	f := mustStart(t, nil, 2, 5, storeOf(4, "i=1"))
	wantReported(t, f, "")
	want := f
	want.Clock = 1
	wantDoes(t, "a tick", f, tick, want)
	wantFarm(t, "FarmCalm", impl.FarmCalm(f), f)
	for _, e := range []impl.Event{deliver(0), drop(0), twice(0), crash(2), up(2), up(0), forget(0), {Kind: 7}} {
		wantDoes(t, "nothing", f, e, f)
	}
	wantReported(t, impl.Farm{}, "")
}

// Epochs are told to workers in turn, by the remainder of how many there are, also of those that are down.
func TestWorkersInTurn(t *testing.T) {
	var modules []string
	for i := range impl.MaxModules {
		modules = append(modules, "n"+strconv.Itoa(10+i))
	}
	list := setFrom(modules...)
	for _, workers := range []int{1, 2, 3, 7, 19, 20, 21, mostWorkers} {
		f := mustStart(t, list, workers, 1, impl.Store{})
		f = impl.FarmDo(f, crash(workers-1))
		for round := range 4 {
			f = impl.FarmDo(f, tick)
			if len(f.Net) != len(list)*(round+1) || f.Epoch != len(f.Net) || f.Clock != round+1 {
				t.Fatalf("%d packets, epoch %d", len(f.Net), f.Epoch)
			}
		}
		for i, p := range f.Net {
			if p != taskPacket(f, modules[i%len(list)], (i+1)%workers, i+1) {
				t.Errorf("of %d workers the packet at %d goes to %d with epoch %d", workers, i, p.To, p.Epoch)
			}
		}
		for i, l := range f.Leases {
			if l != (impl.Lease{Name: modules[i], Epoch: 61 + i, Until: 5}) {
				t.Errorf("the lease at %d is %+v", i, l)
			}
		}
	}
}

func TestTicksAtALeasesEnd(t *testing.T) {
	f := mustStart(t, smallSet(), 2, 3, impl.Store{})
	for _, clock := range []int{0, 1, 6, 1000000, -5, math.MinInt} {
		f.Clock, f.Epoch = clock, 7
		for above, stands := range map[int]bool{-1: false, 0: false, 1: true, 2: true, 100: true} {
			f.Leases = []impl.Lease{{Name: "b", Epoch: 2, Until: clock + 1 + above}, {Name: "c", Epoch: 3, Until: clock + 9}}
			want := f
			want.Clock++
			if !stands {
				want.Epoch = 8
				want.Leases = []impl.Lease{{Name: "b", Epoch: 8, Until: clock + 4}, f.Leases[1]}
				want.Net = []impl.Packet{taskPacket(f, "b", 0, 8)}
			}
			wantDoes(t, "a lease "+strconv.Itoa(above)+" above the clock", f, tick, want)
		}
	}
	// what it was sent is still under way: it may come back twice
	f.Clock, f.Epoch, f.Leases = 4, 1, []impl.Lease{{Name: "b", Epoch: 1, Until: 5}, {Name: "c", Epoch: 2, Until: 90}}
	f.Net = []impl.Packet{taskPacket(f, "b", 1, 1)}
	want := f
	want.Clock, want.Epoch = 5, 2
	want.Leases = []impl.Lease{{Name: "b", Epoch: 2, Until: 8}, f.Leases[1]}
	want.Net = []impl.Packet{f.Net[0], taskPacket(f, "b", 0, 2)}
	wantDoes(t, "a lease that ends", f, tick, want)
}

// Modules are gone through in order: one that is found in the store is done for those behind it.
func TestTicksGoThroughTheSetInOrder(t *testing.T) {
	list := sourcesOf("a", "let v = 1", "b", "import a\nlet v = a.v", "c", "import b\nlet v = b.v", "d", "import e\nlet v = e.v", "e", "let v = 2")
	all := impl.CheckAll(list)
	store := impl.Store{Room: 9}
	for i, s := range list {
		store = impl.StorePut(store, impl.TaskOf(list, all, s.Name), impl.PutResult(all[i]))
	}
	f := mustStart(t, list, 2, 3, store)
	want := f
	want.Clock = 1
	want.Done = []impl.Result{all[0], all[1], all[2], all[4]}
	items := store.Items
	want.Store.Items = []impl.Item{items[0], items[2], items[3], items[4], items[1]}
	f = impl.FarmDo(f, tick)
	wantFarm(t, "all but one", f, want)
	wantNotReported(t, f)
	want.Clock, want.Done = 2, all
	want.Store.Items = []impl.Item{items[1], items[0], items[2], items[3], items[4]}
	f = impl.FarmDo(f, tick)
	wantFarm(t, "all", f, want)
	wantReported(t, f, impl.Report(list))
}

func TestTicksWithAResultInTheStore(t *testing.T) {
	list := smallSet()
	f := mustStart(t, list, 2, 3, impl.Store{Room: 9})
	b, c := checked(t, list, "b"), checked(t, list, "c")
	task, other := impl.TaskOf(list, nil, "b"), impl.TaskOf(list, nil, "c")
	f.Clock, f.Epoch = 5, 4
	f.Leases = []impl.Lease{{Name: "c", Epoch: 3, Until: 99}}
	lent := slices.Clone(f.Leases)
	right := itemOf(task, impl.PutResult(b))
	f.Store.Items = []impl.Item{itemOf("x", "1"), right, itemOf("y", "2")}
	want := f
	want.Clock, want.Done = 6, []impl.Result{b}
	want.Store.Items = []impl.Item{right, itemOf("x", "1"), itemOf("y", "2")}
	wantDoes(t, "there already", f, tick, want)
	// with a lease that has ended, which goes
	f.Leases = []impl.Lease{{Name: "b", Epoch: 1, Until: 6}, lent[0]}
	wantDoes(t, "there already, and a lease that has ended", f, tick, want)
	// a lease that stands is waited for
	f.Leases[0].Until = 7
	want = f
	want.Clock = 6
	wantDoes(t, "there already, and a lease that stands", f, tick, want)
	// something else at that input: it was used, and is not taken
	f.Leases = lent
	for what, output := range map[string]string{
		"nothing": "", "no bytes of a result": "x", "a result of another module": impl.PutResult(c), "a task": task, "one byte more": right.Output + "\x00", "one byte less": right.Output[1:],
		"a result with a code that is none": impl.PutTexts([]string{"b", "b: 1:wrong\n", impl.PutSummary(dark("b"))}),
	} {
		f.Store.Items = []impl.Item{itemOf("x", "1"), itemOf(task, output), itemOf("y", "2")}
		want := f
		want.Clock, want.Epoch = 6, 5
		want.Leases = []impl.Lease{{Name: "b", Epoch: 5, Until: 9}, lent[0]}
		want.Net = []impl.Packet{taskPacket(f, "b", 1, 5)}
		want.Store.Items = []impl.Item{itemOf(task, output), itemOf("x", "1"), itemOf("y", "2")}
		wantDoes(t, what, f, tick, want)
	}
	// another result of that name is taken as it is: a store is believed
	f.Store.Items = []impl.Item{itemOf(task, impl.PutResult(resultOf(dark("b"))))}
	want = f
	want.Clock, want.Done = 6, []impl.Result{resultOf(dark("b"))}
	wantDoes(t, "another result of that name", f, tick, want)
	// what another module was made of is not asked for
	f.Store.Items = []impl.Item{itemOf(other, impl.PutResult(b)), itemOf(impl.PutResult(b), impl.PutResult(b)), itemOf("", impl.PutResult(b))}
	if after := impl.FarmDo(f, tick); len(after.Done) != 0 || len(after.Leases) != 2 || !sameStore(after.Store, f.Store) {
		t.Errorf("by another input:\n%s", farmText(after))
	}
	// a store that is none has nothing
	for what, store := range wrongStores() {
		if len(store.Items) > 1000 {
			continue
		}
		f.Store = impl.Store{Room: store.Room, Items: append(slices.Clone(store.Items), right)}
		after := impl.FarmDo(f, tick)
		if len(after.Done) != 0 || len(after.Leases) != 2 || !sameStore(after.Store, f.Store) {
			t.Errorf("%s:\n%s", what, farmText(after))
		}
	}
}

func TestTicksAtAFullNet(t *testing.T) {
	f := mustStart(t, smallSet(), 2, 3, impl.Store{})
	odd := impl.Packet{To: 9, Epoch: 5, Body: "odd"}
	for count, sent := range map[int]int{0: 2, impl.MaxNet - 3: 2, impl.MaxNet - 2: 2, impl.MaxNet - 1: 1, impl.MaxNet: 0, impl.MaxNet + 1: 0, 3 * impl.MaxNet: 0} {
		f.Net = slices.Repeat([]impl.Packet{odd}, count)
		want := f
		want.Clock, want.Epoch = 1, 2
		want.Leases = []impl.Lease{{Name: "b", Epoch: 1, Until: 4}, {Name: "c", Epoch: 2, Until: 4}}
		want.Net = append(slices.Clone(f.Net), []impl.Packet{taskPacket(f, "b", 1, 1), taskPacket(f, "c", 0, 2)}[:sent]...)
		wantDoes(t, "a net of "+strconv.Itoa(count), f, tick, want)
	}
	// when the lease has ended, it is sent all the same
	f.Net = slices.Repeat([]impl.Packet{odd}, impl.MaxNet)
	f = impl.FarmDo(f, tick)
	for range 2 {
		f = impl.FarmRun(f, []impl.Event{drop(0), tick})
		if len(f.Net) != impl.MaxNet-f.Clock+1 || f.Epoch != 2 {
			t.Fatalf("a lease that stands:\n%s", farmText(f))
		}
	}
	f = impl.FarmDo(f, tick)
	if len(f.Net) != impl.MaxNet || f.Epoch != 4 || f.Net[impl.MaxNet-1] != taskPacket(f, "c", 0, 4) {
		t.Errorf("behind the lease's end:\n%s", farmText(f))
	}
}

func TestPacketsThatAreDroppedAndDoubled(t *testing.T) {
	f := mustStart(t, smallSet(), 2, 3, impl.Store{})
	p := func(to int) impl.Packet { return impl.Packet{To: to, Epoch: 10 + to, Body: strconv.Itoa(to)} }
	f.Net = []impl.Packet{p(0), p(1), p(2), p(3)}
	for at := range 4 {
		want := f
		want.Net = slices.Delete(slices.Clone(f.Net), at, at+1)
		wantDoes(t, "EvDrop", f, drop(at), want)
		want.Net = append(slices.Clone(f.Net), p(at))
		wantDoes(t, "EvTwice", f, twice(at), want)
	}
	for _, count := range []int{1, impl.MaxNet - 1, impl.MaxNet, impl.MaxNet + 1} {
		f.Net = slices.Repeat([]impl.Packet{p(1)}, count)
		f.Net[0] = p(7)
		want := f
		if count < impl.MaxNet {
			want.Net = append(slices.Clone(f.Net), p(7))
		}
		wantDoes(t, "EvTwice of "+strconv.Itoa(count), f, twice(0), want)
		want.Net = f.Net[1:]
		wantDoes(t, "EvDrop of "+strconv.Itoa(count), f, drop(0), want)
		want.Net = f.Net[:count-1]
		wantDoes(t, "EvDrop of the last", f, drop(count-1), want)
	}
}

func TestPlacesThatAreNone(t *testing.T) {
	f := mustStart(t, smallSet(), 3, 3, storeOf(3, "i=1"))
	f = impl.FarmRun(f, []impl.Event{tick, crash(0), deliver(0)})
	if len(f.Net) != 2 || len(f.Up) != 3 {
		t.Fatal(farmText(f))
	}
	for _, at := range []int{-1, -2, 2, 3, 200, 201, math.MinInt, math.MaxInt} {
		wantDoes(t, "EvDeliver", f, deliver(at), f)
		wantDoes(t, "EvDrop", f, drop(at), f)
		wantDoes(t, "EvTwice", f, twice(at), f)
	}
	for _, at := range []int{-1, -2, 3, 4, 30, 31, math.MinInt, math.MaxInt} {
		wantDoes(t, "EvCrash", f, crash(at), f)
		wantDoes(t, "EvUp", f, up(at), f)
	}
	for _, kind := range []int{-1, 7, 8, 255, 256, math.MinInt, math.MaxInt} {
		for _, at := range []int{0, 1, -1, 100} {
			wantDoes(t, "no event", f, impl.Event{Kind: kind, At: at}, f)
		}
	}
	// a tick has no place
	want := impl.FarmDo(f, tick)
	for _, at := range []int{1, -1, 500, math.MinInt, math.MaxInt} {
		wantDoes(t, "a tick", f, impl.Event{Kind: impl.EvTick, At: at}, want)
	}
}

func TestWorkersThatCrashAndComeUp(t *testing.T) {
	f := mustStart(t, smallSet(), 3, 3, impl.Store{})
	f.Up = []bool{true, false, true}
	for at := range 3 {
		for kind, is := range map[int]bool{impl.EvCrash: false, impl.EvUp: true} {
			want := f
			want.Up = slices.Clone(f.Up)
			want.Up[at] = is
			wantDoes(t, "a worker", f, impl.Event{Kind: kind, At: at}, want)
		}
	}
	// one that is down takes what goes to it, and answers nothing; it is sent to all the same
	f.Net = []impl.Packet{taskPacket(f, "b", 1, 4), taskPacket(f, "b", 2, 5)}
	want := f
	want.Net = f.Net[1:]
	wantDoes(t, "one that is down", f, deliver(0), want)
	want.Net = []impl.Packet{f.Net[0], resultPacket(t, f, "b", 5)}
	wantDoes(t, "one that is up", f, deliver(1), want)
	want.Up = []bool{true, true, true}
	want.Net = []impl.Packet{f.Net[1], resultPacket(t, f, "b", 4)}
	wantFarm(t, "one that comes up", impl.FarmRun(f, []impl.Event{up(1), deliver(0)}), want)
}

func TestItemsThatAreForgotten(t *testing.T) {
	f := mustStart(t, smallSet(), 1, 1, fullStore(greatestRoom, greatestRoom))
	for _, n := range []int{0, 1, 2, 99, 100, 101, 102, -1, -100, math.MinInt, math.MaxInt} {
		want := f
		want.Store = impl.StoreDrop(f.Store, n)
		wantDoes(t, "EvForget of "+strconv.Itoa(n), f, forget(n), want)
		if n >= 0 && n <= 100 && len(want.Store.Items) != 100-n || (n < 0 || n > 100) && len(want.Store.Items) != 100 {
			t.Error(n, len(want.Store.Items))
		}
	}
	for what, store := range wrongStores() {
		if len(store.Items) < 1000 {
			f.Store = store
			wantDoes(t, what, f, forget(1), f)
		}
	}
}

func TestTasksThatWorkersGet(t *testing.T) {
	list := smallSet()
	f := mustStart(t, list, 2, 3, impl.Store{})
	task := impl.TaskOf(list, nil, "b")
	wantAnswer := func(what, body, answer string) {
		t.Helper()
		f.Net = []impl.Packet{{To: 1, Epoch: 8, Body: body}, {To: 0, Epoch: 9, Body: "next"}}
		want := f
		want.Net = append(slices.Clone(f.Net[1:]), impl.Packet{To: toCoordinator, Epoch: 8, Body: answer})
		wantDoes(t, what, f, deliver(0), want)
	}
	result := impl.PutResult(checked(t, list, "b"))
	wantAnswer("a task", impl.PutTexts([]string{"b", task}), impl.PutTexts([]string{"b", result}))
	// the name is told as it stands ahead of the task, whatever that is of
	for _, name := range []string{"", "a", "z", "let", "\xff\n"} {
		wantAnswer("a task under another name", impl.PutTexts([]string{name, task}), impl.PutTexts([]string{name, result}))
		wantAnswer("no task", impl.PutTexts([]string{name, ""}), impl.PutTexts([]string{name, ""}))
		wantAnswer("a result", impl.PutTexts([]string{name, result}), impl.PutTexts([]string{name, ""}))
	}
	wantAnswer("two empty texts", "\x02\x00\x00", "\x02\x00\x00")
	// where the body has not two texts, nothing is answered
	right := impl.PutTexts([]string{"b", task})
	for _, body := range []string{"", "\x00", "x", impl.PutTexts([]string{"b"}), impl.PutTexts([]string{"b", task, ""}), impl.PutTexts([]string{"b", task, task}), task, right + "\x00", right[1:], right[:len(right)-1]} {
		f.Net = []impl.Packet{{To: 1, Epoch: 8, Body: body}, {To: 0, Epoch: 9, Body: "next"}}
		want := f
		want.Net = f.Net[1:]
		wantDoes(t, "no two texts", f, deliver(0), want)
	}
	// nobody is there
	for _, to := range []int{2, 3, 30, 31, -2, -3, math.MinInt, math.MaxInt} {
		f.Net = []impl.Packet{{To: to, Epoch: 8, Body: right}, {To: 0, Epoch: 9, Body: "next"}}
		want := f
		want.Net = f.Net[1:]
		wantDoes(t, "no worker", f, deliver(0), want)
	}
	// a net that is full has room for the answer, as the packet is gone; one that has more than it may has not
	for _, count := range []int{impl.MaxNet - 1, impl.MaxNet, impl.MaxNet + 1, impl.MaxNet + 2} {
		for _, at := range []int{0, 5, count - 1} {
			f.Net = slices.Repeat([]impl.Packet{{To: 0, Epoch: 9, Body: "next"}}, count)
			f.Net[at] = impl.Packet{To: 0, Epoch: 8, Body: right}
			want := f
			want.Net = slices.Delete(slices.Clone(f.Net), at, at+1)
			if count <= impl.MaxNet {
				want.Net = append(want.Net, resultPacket(t, f, "b", 8))
			}
			wantDoes(t, "a net of "+strconv.Itoa(count), f, deliver(at), want)
		}
	}
}

func TestResultsThatTheCoordinatorGets(t *testing.T) {
	list := smallSet()
	f := mustStart(t, list, 2, 3, storeOf(3, "i=1 k=2 l=3"))
	f.Clock, f.Epoch = 9, 20
	b, c := checked(t, list, "b"), checked(t, list, "c")
	f.Leases = []impl.Lease{{Name: "b", Epoch: 7, Until: 11}, {Name: "c", Epoch: 8, Until: 12}}
	f.Net = []impl.Packet{resultPacket(t, f, "b", 7), resultPacket(t, f, "c", 8)}
	want := f
	want.Net, want.Leases, want.Done = f.Net[1:], f.Leases[1:], []impl.Result{b}
	want.Store.Items = append([]impl.Item{itemOf(impl.TaskOf(list, nil, "b"), impl.PutResult(b))}, f.Store.Items[:2]...)
	wantDoes(t, "a result", f, deliver(0), want)
	// whenever its lease ends or ended, whether it has one, and whatever its epoch is
	taken := want
	for _, epoch := range []int{7, 6, 8, 0, -1, 20, 21} {
		for _, until := range []int{11, 10, 9, 8, 0, -1} {
			f.Net = []impl.Packet{resultPacket(t, f, "b", epoch), resultPacket(t, f, "c", 8)}
			f.Leases[0].Until = until
			wantDoes(t, "a result behind its lease's end", f, deliver(0), taken)
			f.Leases = f.Leases[1:]
			wantDoes(t, "a result without a lease", f, deliver(0), taken)
			f.Leases = []impl.Lease{{Name: "b", Epoch: 7, Until: until}, {Name: "c", Epoch: 8, Until: 12}}
		}
	}
	// in order, whichever comes first
	want = f
	want.Net, want.Leases, want.Done = f.Net[:1], f.Leases[:1], []impl.Result{c}
	want.Store.Items = append([]impl.Item{itemOf(impl.TaskOf(list, nil, "c"), impl.PutResult(c))}, f.Store.Items[:2]...)
	wantDoes(t, "another result", f, deliver(1), want)
	want.Net, want.Leases, want.Done = nil, nil, []impl.Result{b, c}
	want.Store.Items = append([]impl.Item{itemOf(impl.TaskOf(list, nil, "b"), impl.PutResult(b))}, want.Store.Items[:2]...)
	wantFarm(t, "both, turned around", impl.FarmRun(f, []impl.Event{deliver(1), deliver(0)}), want)
	// the store has it in the place of what it had at that input
	f.Store = impl.Store{Room: 3, Items: []impl.Item{itemOf("i", "1"), itemOf(impl.TaskOf(list, nil, "b"), "other"), itemOf("k", "2")}}
	after := impl.FarmDo(f, deliver(0))
	wantStore(t, "at that input", after.Store, impl.Store{Room: 3, Items: []impl.Item{itemOf(impl.TaskOf(list, nil, "b"), impl.PutResult(b)), itemOf("i", "1"), itemOf("k", "2")}})
	// a store without room, and one that is none: it is Done all the same
	for _, store := range []impl.Store{{}, storeOf(1, "a=1 b=2"), {Room: -1}, {Room: 101}} {
		f.Store = store
		after := impl.FarmDo(f, deliver(0))
		if !sameResults(after.Done, []impl.Result{b}) || !sameStore(after.Store, store) {
			t.Errorf("without room:\n%s", farmText(after))
		}
	}
}

// wantNotTaken holds that a packet to the coordinator is gone, and nothing else is changed.
func wantNotTaken(t *testing.T, what string, f impl.Farm, body string) {
	t.Helper()
	f.Net = []impl.Packet{{To: 0, Epoch: 3, Body: "next"}, {To: toCoordinator, Epoch: 1, Body: body}, {To: 1, Epoch: 4, Body: "more"}}
	want := f
	want.Net = []impl.Packet{f.Net[0], f.Net[2]}
	wantDoes(t, what, f, deliver(1), want)
}

func TestWhatTheCoordinatorDoesNotTake(t *testing.T) {
	list := smallSet()
	f := mustStart(t, list, 2, 3, storeOf(3, "i=1"))
	f = impl.FarmDo(f, tick)
	a, b := impl.PutResult(checked(t, list, "a")), impl.PutResult(checked(t, list, "b"))
	bodyOf := func(texts ...string) string { return impl.PutTexts(texts) }
	right := bodyOf("b", b)
	for _, body := range []string{"", "\x00", "x", right + "\x00", right[1:], right[:len(right)-1], b, "\xff\xff\xff\xff\x7f"} {
		wantNotTaken(t, "no PutTexts", f, body)
	}
	for _, texts := range [][]string{{"b"}, {b}, {"b", b, ""}, {"b", b, b}, {"b", "", b}, {b, "b"}} {
		wantNotTaken(t, "no two texts", f, bodyOf(texts...))
	}
	for _, name := range []string{"", "a", "c", "B", "b ", "let", "\xff"} {
		wantNotTaken(t, "a result of another name", f, bodyOf(name, b))
	}
	for _, bytes := range []string{"", "x", b + "\x00", b[1:], bodyOf("b", "b: 0:plus\n", impl.PutSummary(dark("b"))), bodyOf("b", "b: ok", impl.PutSummary(dark("b"))), bodyOf("b", "c: ok\n", impl.PutSummary(dark("b"))), bodyOf("b", "b: ok\n", impl.PutSummary(dark("c")))} {
		wantNotTaken(t, "no result", f, bodyOf("b", bytes))
	}
	other := impl.PutResult(resultOf(dark("z")))
	wantNotTaken(t, "no module of the set", f, bodyOf("z", other))
	// ahead of what it imports
	wantNotTaken(t, "ahead of what it imports", f, bodyOf("a", a))
	// behind another one: the first one counts
	f = withDone(t, f, "b")
	wantNotTaken(t, "told twice", f, right)
	wantNotTaken(t, "told once more, and otherwise", f, bodyOf("b", impl.PutResult(resultOf(dark("b")))))
	f.Net = []impl.Packet{{To: toCoordinator, Body: bodyOf("a", a)}}
	if after := impl.FarmDo(f, deliver(0)); len(after.Done) != 2 || after.Done[0].Name != "a" || after.Done[1].Name != "b" {
		t.Errorf("behind what it imports:\n%s", farmText(after))
	}
}

// Of a circle each one is ready from the first on, whatever is done; those that import it wait for it.
func TestFarmsWithCircles(t *testing.T) {
	list := sourcesOf("a", "import b\nlet v = b.v", "b", "import a\nimport lost", "c", "import a\nlet w = a.v + 1", "d", "import d\nimport e", "e", "let v = 1", "f", "import none\nlet v = none.v")
	f := mustStart(t, list, 3, 2, impl.Store{Room: 9})
	f = impl.FarmDo(f, tick)
	var names []string
	for i, l := range f.Leases {
		names = append(names, l.Name)
		if f.Net[i] != taskPacket(f, l.Name, (i+1)%3, i+1) {
			t.Errorf("the packet at %d is %+v", i, f.Net[i])
		}
	}
	if listText(names) != "a b d e f" || f.Epoch != 5 {
		t.Errorf("ready are %q", names)
	}
	// the result of one of a circle is taken ahead of what it imports
	f.Net = []impl.Packet{resultPacket(t, f, "d", 3), resultPacket(t, f, "c", 9), resultPacket(t, f, "a", 1)}
	f = impl.FarmRun(f, []impl.Event{deliver(0), deliver(0), deliver(0)})
	if len(f.Done) != 2 || f.Done[0].Name != "a" || f.Done[1].Name != "d" || impl.ResultText(f.Done[0]) != "a: 1:circle\n" {
		t.Errorf("done are\n%s", farmText(f))
	}
	wantReported(t, impl.FarmCalm(f), "a: 1:circle\nb: 1:circle\nc: ok\nd: 1:circle\ne: ok\nf: 1:import\n")
}

func TestRunsOfEvents(t *testing.T) {
	f := mustStart(t, smallSet(), 2, 3, impl.Store{Room: 9})
	wantFarm(t, "no events", impl.FarmRun(f, nil), f)
	wantFarm(t, "no events", impl.FarmRun(f, []impl.Event{}), f)
	for _, count := range []int{1, 2, 100, mostEvents - 1, mostEvents} {
		list := slices.Repeat([]impl.Event{tick}, count)
		if after := impl.FarmRun(f, list); after.Clock != count || after.Epoch != (count+2)/3*2 {
			t.Errorf("%d ticks: clock %d, epoch %d", count, after.Clock, after.Epoch)
		}
	}
	for _, count := range []int{mostEvents + 1, mostEvents + 2, 100000} {
		wantFarm(t, "too many", impl.FarmRun(f, slices.Repeat([]impl.Event{tick}, count)), f)
		wantFarm(t, "too many that are none", impl.FarmRun(f, slices.Repeat([]impl.Event{{Kind: -1}}, count)), f)
	}
	// those that are none, or at no place, are passed by
	list := []impl.Event{{Kind: 9}, tick, deliver(5), deliver(0), {Kind: -1}, crash(7), deliver(1), drop(-1), tick}
	want := f
	for _, e := range list {
		want = impl.FarmDo(want, e)
	}
	wantFarm(t, "with some that are none", impl.FarmRun(f, list), want)
	if len(want.Done) != 1 || want.Clock != 2 {
		t.Error(farmText(want))
	}
}

func TestReportsOfFarms(t *testing.T) {
	f := mustStart(t, smallSet(), 2, 3, impl.Store{Room: 9})
	for _, names := range []string{"", "a", "b", "a b", "a c", "b c"} {
		wantNotReported(t, withDone(t, f, strings.Fields(names)...))
	}
	all := withDone(t, f, "a", "b", "c")
	wantReported(t, all, "a: ok\nb: ok\nc: 1:plus\n")
	// neither leases, packets nor workers are asked for
	all.Net, all.Leases, all.Up, all.Wait, all.Clock, all.Store = []impl.Packet{{}}, []impl.Lease{{Name: "a"}}, nil, 0, -1, impl.Store{Room: -1}
	wantReported(t, all, "a: ok\nb: ok\nc: 1:plus\n")
	// made by hand: each of Done, as it stands
	wantReported(t, withDone(t, f, "c", "a", "b"), "c: 1:plus\na: ok\nb: ok\n")
	more := withDone(t, f, "c", "a", "b", "a")
	more.Done = append(more.Done, impl.Result{Name: "z", Diags: []impl.Diag{{Line: -3, Code: "odd one"}}}, impl.Result{})
	wantReported(t, more, "c: 1:plus\na: ok\nb: ok\na: ok\nz: -3:odd one\n: ok\n")
	more.Done = more.Done[1:]
	wantNotReported(t, more)
	// a list that is no set, too
	wantReported(t, impl.Farm{Set: sourcesOf("b", "", "a", "", "b", ""), Done: []impl.Result{{Name: "b"}, {Name: "a"}}}, "b: ok\na: ok\n")
	wantNotReported(t, impl.Farm{Set: sourcesOf("b", "", "a", "", "", ""), Done: []impl.Result{{Name: "b"}, {Name: "a"}}})
	wantReported(t, impl.Farm{Done: []impl.Result{{Name: "q"}}}, "q: ok\n")
}

func TestFarmsComeToCalm(t *testing.T) {
	list := smallSet()
	f := mustStart(t, list, 2, 3, impl.Store{Room: 9})
	c := impl.FarmCalm(f)
	want := withDone(t, f, "a", "b", "c")
	want.Clock, want.Epoch = 2, 3
	for _, name := range []string{"b", "c", "a"} {
		want.Store = impl.StorePut(want.Store, impl.TaskOf(list, want.Done, name), impl.PutResult(checked(t, list, name)))
	}
	wantFarm(t, "FarmCalm", c, want)
	wantFarm(t, "FarmCalm once more", impl.FarmCalm(c), c)
	// all workers come up, also where there is nothing to do
	c.Up = []bool{false, false}
	wantFarm(t, "FarmCalm of workers that are down", impl.FarmCalm(c), want)
	// packets that are left are delivered, behind a tick
	c.Net = []impl.Packet{taskPacket(c, "b", 0, 1), resultPacket(t, c, "c", 1), {To: 7}}
	want.Clock++
	wantFarm(t, "FarmCalm with packets", impl.FarmCalm(c), want)
	// of waits that are none, workers come up and that is all
	for _, wait := range []int{0, -1, mostWait + 1, math.MinInt, math.MaxInt} {
		g := f
		g.Wait, g.Up = wait, []bool{false, true, false}
		g.Net = []impl.Packet{taskPacket(f, "b", 0, 1)}
		want := g
		want.Up = []bool{true, true, true}
		wantFarm(t, "wait "+strconv.Itoa(wait), impl.FarmCalm(g), want)
	}
	for _, wait := range []int{1, mostWait} {
		f := mustStart(t, list, 2, wait, impl.Store{})
		wantReported(t, impl.FarmCalm(f), impl.Report(list))
	}
}

// A module whose task gives nothing is tried as often as there is time: for each module and two more times.
func TestCalmEnds(t *testing.T) {
	list := sourcesOf("a", "import b", "b", "", "c", "import b")
	for _, wait := range []int{1, 2, 3, mostWait} {
		f := mustStart(t, list, 2, wait, impl.Store{})
		// b is done, but nothing is told of it that would be a summary: those that import it have no task
		f.Done = []impl.Result{{Name: "b"}}
		c := impl.FarmCalm(f)
		if c.Clock != 5*wait || c.Epoch != 10 || len(c.Net) != 0 || len(c.Done) != 1 || len(c.Leases) != 2 || c.Leases[1] != (impl.Lease{Name: "c", Epoch: 10, Until: 5*wait + 1}) {
			t.Errorf("wait %d:\n%s", wait, farmText(c))
		}
	}
	// no workers: what is sent goes to none
	f := impl.Farm{Set: list, Wait: 2, Leases: []impl.Lease{{Name: "b", Until: 3}}}
	c := impl.FarmCalm(f)
	if c.Clock != 10 || c.Epoch != 4 || len(c.Net) != 0 || len(c.Leases) != 1 || c.Leases[0] != (impl.Lease{Name: "b", Epoch: 4, Until: 11}) {
		t.Errorf("no workers:\n%s", farmText(c))
	}
	// at most 400 packets are delivered behind a tick, the first one each time
	for count, rounds := range map[int]int{1: 1, 399: 1, 400: 1, 401: 2, 800: 2, 801: 3, 1200: 3, 1201: 4} {
		f := impl.Farm{Wait: 50, Up: []bool{true}, Net: slices.Repeat([]impl.Packet{{To: 5}}, count)}
		if c := impl.FarmCalm(f); c.Clock != rounds || len(c.Net) != 0 {
			t.Errorf("%d packets: clock %d, and %d packets", count, c.Clock, len(c.Net))
		}
	}
	f = impl.Farm{Wait: 1, Up: []bool{true}, Net: slices.Repeat([]impl.Packet{{To: 5}}, 1000)}
	if c := impl.FarmCalm(f); c.Clock != 2 || len(c.Net) != 200 {
		t.Errorf("more packets than there is time for: clock %d, and %d packets", c.Clock, len(c.Net))
	}
}

// Whatever was sent and got lost: when the leases have ended, all is sent again, also from a full net on.
func TestCalmBehindAFullNet(t *testing.T) {
	list := rowOf(impl.MaxModules, "")
	report := impl.Report(list)
	for _, wait := range []int{1, 2, mostWait} {
		for _, body := range []string{"", "x", impl.PutTexts([]string{"n10", impl.TaskOf(list, nil, "n10")})} {
			for _, to := range []int{toCoordinator, 0, 29, 30} {
				f := mustStart(t, list, mostWorkers, wait, impl.Store{})
				f.Net = slices.Repeat([]impl.Packet{{To: to, Body: body}}, impl.MaxNet)
				f = impl.FarmDo(f, tick)
				if len(f.Net) != impl.MaxNet || len(f.Leases) != 1 {
					t.Fatal(farmText(f))
				}
				for at := range mostWorkers {
					f = impl.FarmDo(f, crash(at))
				}
				c := impl.FarmCalm(f)
				wantReported(t, c, report)
				if len(c.Net) != 0 || len(c.Leases) != 0 || slices.Contains(c.Up, false) {
					t.Errorf("behind FarmCalm:\n%s", farmText(c))
				}
			}
		}
	}
}

// A farm that was put together by hand is taken as it stands.
func TestFarmsMadeByHand(t *testing.T) {
	list := smallSet()
	none := impl.Farm{}
	wantDoes(t, "the zero value", none, tick, impl.Farm{Clock: 1})
	for _, e := range []impl.Event{deliver(0), drop(0), twice(0), crash(0), up(0), forget(0), forget(100)} {
		wantDoes(t, "the zero value", none, e, none)
	}
	wantFarm(t, "the zero value", impl.FarmCalm(none), none)
	// no workers: leases are made, and nobody is sent to
	want := impl.Farm{Set: list, Wait: 3, Clock: 1, Epoch: 2, Leases: []impl.Lease{{Name: "b", Epoch: 1, Until: 4}, {Name: "c", Epoch: 2, Until: 4}}}
	wantDoes(t, "no workers", impl.Farm{Set: list, Wait: 3}, tick, want)
	// waits that are none: a lease stands until the clock and that
	for _, wait := range []int{0, -1, -7, mostWait + 1, 1000} {
		f := impl.Farm{Set: list, Wait: wait, Up: []bool{true, true}}
		want := f
		want.Clock, want.Epoch = 1, 2
		want.Leases = []impl.Lease{{Name: "b", Epoch: 1, Until: 1 + wait}, {Name: "c", Epoch: 2, Until: 1 + wait}}
		want.Net = []impl.Packet{taskPacket(f, "b", 1, 1), taskPacket(f, "c", 0, 2)}
		wantDoes(t, "wait "+strconv.Itoa(wait), f, tick, want)
		if again := impl.FarmRun(f, []impl.Event{tick, tick}); (again.Epoch == 4) != (wait < 1) || again.Clock != 2 {
			t.Errorf("wait %d:\n%s", wait, farmText(again))
		}
	}
	// an epoch below 0: no worker is below 0
	f := impl.Farm{Set: list, Wait: 3, Up: make([]bool, 3), Epoch: -6}
	f = impl.FarmDo(f, tick)
	if f.Epoch != -4 || f.Net[0] != (impl.Packet{To: 1, Epoch: -5, Body: f.Net[0].Body}) || f.Net[1].To != 2 || f.Leases[1].Epoch != -4 {
		t.Errorf("epochs below 0:\n%s", farmText(f))
	}
	// more workers than there may be
	f = impl.FarmDo(impl.Farm{Set: list, Wait: 3, Up: make([]bool, 99), Epoch: 96}, tick)
	if f.Net[0].To != 97 || f.Net[1].To != 98 {
		t.Errorf("99 workers:\n%s", farmText(f))
	}
}

// Lists that are out of order have all that they had, and what comes to them stands in order with it.
func TestFarmsWhoseListsAreOutOfOrder(t *testing.T) {
	list := smallSet()
	f := impl.Farm{Set: list, Wait: 3, Up: []bool{true}, Clock: 5, Epoch: 9, Leases: []impl.Lease{{Name: "c", Epoch: 2, Until: 7}, {Name: "b", Epoch: 3, Until: 6}, {Name: "Z", Until: 1}}}
	want := f
	want.Clock, want.Epoch = 6, 10
	want.Leases = []impl.Lease{{Name: "Z", Until: 1}, {Name: "b", Epoch: 10, Until: 9}, {Name: "c", Epoch: 2, Until: 7}}
	want.Net = []impl.Packet{taskPacket(f, "b", 0, 10)}
	wantDoes(t, "leases", f, tick, want)
	// as long as none is made or goes, they stand as they did
	f.Leases[1].Until = 8
	want = f
	want.Clock = 6
	wantDoes(t, "leases that stand", f, tick, want)
	// several of one module: one that has ended is enough to make a new one, in the place of all
	f.Leases = []impl.Lease{{Name: "b", Epoch: 1, Until: 60}, {Name: "c", Epoch: 2, Until: 70}, {Name: "b", Epoch: 3, Until: 6}, {Name: "b", Epoch: 4, Until: 80}}
	want.Epoch = 10
	want.Leases = []impl.Lease{{Name: "b", Epoch: 10, Until: 9}, {Name: "c", Epoch: 2, Until: 70}}
	want.Net = []impl.Packet{taskPacket(f, "b", 0, 10)}
	wantDoes(t, "several leases of one", f, tick, want)
	f.Net = []impl.Packet{resultPacket(t, f, "b", 1)}
	if after := impl.FarmDo(f, deliver(0)); len(after.Leases) != 1 || after.Leases[0].Name != "c" {
		t.Errorf("all leases of what is done go:\n%s", farmText(after))
	}
	// results
	f = withDone(t, impl.Farm{Set: list, Wait: 3, Up: []bool{true}, Leases: []impl.Lease{{Name: "b"}}}, "c", "a")
	f.Net = []impl.Packet{resultPacket(t, f, "b", 1)}
	want = withDone(t, f, "b")
	want.Net, want.Leases, want.Done = nil, nil, []impl.Result{want.Done[1], want.Done[2], want.Done[0]}
	wantDoes(t, "results", f, deliver(0), want)
	f.Net = []impl.Packet{resultPacket(t, f, "c", 1)}
	want = f
	want.Net = nil
	wantDoes(t, "a result that is not taken", f, deliver(0), want)
	// of several results of one name the first one counts for those that import it
	f = impl.Farm{Set: list, Wait: 3, Up: []bool{true}, Done: []impl.Result{resultOf(dark("b")), checked(t, list, "b"), checked(t, list, "c")}}
	after := impl.FarmDo(f, tick)
	if len(after.Net) != 1 || after.Net[0] != taskPacket(f, "a", 0, 1) || !strings.Contains(after.Net[0].Body, impl.PutSummary(dark("b"))) {
		t.Errorf("two results of one name:\n%s", farmText(after))
	}
}

// A list that is no set has no imports, no circles and no tasks.
func TestFarmsOfWhatIsNoSet(t *testing.T) {
	list := sourcesOf("b", "import a", "a", "import b")
	f := impl.Farm{Set: list, Wait: 3, Up: []bool{true, true}}
	want := f
	want.Clock, want.Epoch = 1, 2
	want.Leases = []impl.Lease{{Name: "a", Epoch: 2, Until: 4}, {Name: "b", Epoch: 1, Until: 4}}
	want.Net = []impl.Packet{{To: 1, Epoch: 1, Body: impl.PutTexts([]string{"b", ""})}, {To: 0, Epoch: 2, Body: impl.PutTexts([]string{"a", ""})}}
	wantDoes(t, "out of order", f, tick, want)
	// by the input of nothing one is found, if its name is right, and kept
	f.Store = impl.Store{Room: 2, Items: []impl.Item{itemOf("x", ""), itemOf("", impl.PutResult(resultOf(dark("a"))))}}
	after := impl.FarmDo(f, tick)
	if len(after.Done) != 1 || after.Done[0].Name != "a" || len(after.Leases) != 1 || after.Store.Items[0].Input != "" {
		t.Errorf("found by nothing:\n%s", farmText(after))
	}
	f.Store = impl.Store{Room: 2}
	f.Net = []impl.Packet{{To: toCoordinator, Body: impl.PutTexts([]string{"a", impl.PutResult(resultOf(dark("a")))})}}
	after = impl.FarmDo(f, deliver(0))
	if len(after.Done) != 1 || !sameStore(after.Store, impl.Store{Room: 2, Items: []impl.Item{itemOf("", impl.PutResult(resultOf(dark("a"))))}}) {
		t.Errorf("taken:\n%s", farmText(after))
	}
	// one name twice has one lease
	f = impl.Farm{Set: sourcesOf("a", "", "a", "", "a", ""), Wait: 3, Up: []bool{true}}
	if after := impl.FarmDo(f, tick); after.Epoch != 1 || len(after.Leases) != 1 {
		t.Errorf("one name three times:\n%s", farmText(after))
	}
	f.Wait = 0
	if after := impl.FarmDo(f, tick); after.Epoch != 3 || len(after.Leases) != 1 || after.Leases[0].Epoch != 3 || len(after.Net) != 3 {
		t.Errorf("one name three times, with leases that have ended at once:\n%s", farmText(after))
	}
}

// What has more bytes than a text may have can't be sent: then nothing is told, and FarmCalm ends all the same.
func TestFarmsAtMaxBytes(t *testing.T) {
	great := "let v = let a = 1 in " + strings.Repeat("let a = {p = a, q = a, r = a, s = a, t = a, u = a, v = a, w = a, x = a, y = a} in ", 8) + "a"
	list := sourcesOf("a", "let v = 1", "x", great, "y", "import x let w = x.v")
	f := impl.FarmCalm(mustStart(t, list, 2, 1, impl.Store{Room: 9}))
	wantNotReported(t, f)
	if len(f.Done) != 1 || f.Clock != 5 || len(f.Net) != 0 || len(f.Leases) != 1 {
		t.Errorf("a result of more than MaxBytes:\n%s", farmText(f))
	}
	// a task of more than MaxBytes goes as the empty text, which PutTexts tells then
	wide := func(name string) impl.Result {
		s := wideSummary(t, impl.MaxBytes/2)
		s.Name = name
		return resultOf(s)
	}
	for _, imports := range []string{"import x", "import x import y"} {
		list = sourcesOf("a", imports, "x", "", "y", "")
		f = impl.Farm{Set: list, Wait: 3, Up: []bool{true}, Done: []impl.Result{wide("x"), wide("y")}}
		want := f
		want.Clock, want.Epoch, want.Leases = 1, 1, []impl.Lease{{Name: "a", Epoch: 1, Until: 4}}
		want.Net = []impl.Packet{taskPacket(f, "a", 0, 1)}
		wantDoes(t, "a wide task", f, tick, want)
		if (want.Net[0].Body == "") != strings.Contains(imports, "y") {
			t.Errorf("%s: a body of %d bytes", imports, len(want.Net[0].Body))
		}
	}
	f.Net = []impl.Packet{{Body: ""}}
	wantFarm(t, "a wide task that a worker gets", impl.FarmDo(f, deliver(0)), impl.Farm{Set: list, Wait: 3, Up: []bool{true}, Done: f.Done})
}

func TestFarmsBeginWithAStoreOfOthers(t *testing.T) {
	list := smallSet()
	c := impl.FarmCalm(mustStart(t, list, 2, 3, impl.Store{Room: 9}))
	for workers := 1; workers <= mostWorkers; workers += 7 {
		g := mustStart(t, list, workers, 3, c.Store)
		g = impl.FarmRun(g, []impl.Event{tick, tick})
		wantReported(t, g, impl.Report(list))
		if g.Epoch != 0 || len(g.Net) != 0 || len(g.Leases) != 0 || len(g.Store.Items) != 3 {
			t.Errorf("something was sent:\n%s", farmText(g))
		}
	}
	// one module is another one: it and those that import it are checked anew, by what is told of it
	other := smallSet()
	other[1].Text = "let v = \"t\"\n"
	g := impl.FarmCalm(mustStart(t, other, 2, 3, c.Store))
	wantReported(t, g, "a: 2:plus\nb: ok\nc: 1:plus\n")
	if g.Epoch != 2 || len(g.Store.Items) != 5 {
		t.Errorf("checked anew:\n%s", farmText(g))
	}
	// what tells the same is checked anew alone
	other[1].Text = "let v = 2\n"
	g = impl.FarmCalm(mustStart(t, other, 2, 3, c.Store))
	wantReported(t, g, impl.Report(list))
	if g.Epoch != 1 || len(g.Store.Items) != 4 {
		t.Errorf("checked anew alone:\n%s", farmText(g))
	}
}
