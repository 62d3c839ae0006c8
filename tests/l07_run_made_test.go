package tests

import (
	"math"
	"reflect"
	"slices"
	"strconv"
	"strings"
	"testing"

	"loop.example/g00276/impl"
)

// From here on the document's chapter is told once more, sentence by sentence.

type wordsGiven struct {
	name string
	val  impl.Val
}

// wordsRun has of each unit what was told, and of which definition.
type wordsRun struct {
	units []impl.Unit
	told  [][]impl.Done
	defs  [][]int
	fuel  int
	at    int
}

// ahead is what was done in units of a name ahead of one of their definitions.
func (w *wordsRun) ahead(name string, unit, def int) []wordsGiven {
	var list []wordsGiven
	for u := range w.told {
		for i, d := range w.told[u] {
			if d.Unit == name && (u < unit || u == unit && w.defs[u][i] < def) {
				list = append(list, wordsGiven{d.Name, d.Val})
			}
		}
	}
	return list
}

func lastGiven(list []wordsGiven, name string) (impl.Val, bool) {
	for _, g := range slices.Backward(list) {
		if g.name == name {
			return g.val, true
		}
	}
	return impl.Val{}, false
}

func runByWords(units []impl.Unit, fuel int) []impl.Done {
	w := &wordsRun{units: units, fuel: fuel}
	var out []impl.Done
	for u, unit := range units {
		w.at = u
		w.told, w.defs = append(w.told, nil), append(w.defs, nil)
		for i, d := range unit.Module.Defs {
			if d.Kind == impl.DefType {
				continue
			}
			done := impl.Done{Unit: unit.Name, Name: d.Name}
			if d.Kind == impl.DefFn {
				done.Val = impl.Val{Kind: impl.VFn, N: len(d.Params), Names: []string{unit.Name, d.Name}}
			} else {
				done.Val, done.Code = w.eval(w.ahead(unit.Name, u, i), d.Exp, 0)
			}
			out = append(out, done)
			if done.Code != impl.RunOk {
				return out
			}
			w.told[u], w.defs[u] = append(w.told[u], done), append(w.defs[u], i)
		}
	}
	return out
}

// kids are those of an expression from one place on, up to another.
func (w *wordsRun) kids(scope []wordsGiven, e impl.Exp, from, to, calls int) ([]impl.Val, int) {
	var list []impl.Val
	for _, kid := range e.Kids[from:to] {
		v, code := w.eval(scope, kid, calls)
		if code != impl.RunOk {
			return nil, code
		}
		list = append(list, v)
	}
	return list, impl.RunOk
}

func (w *wordsRun) eval(scope []wordsGiven, e impl.Exp, calls int) (impl.Val, int) {
	if w.fuel <= 0 {
		return impl.Val{}, impl.RunFuel
	}
	w.fuel--
	needed := map[int]int{impl.ExField: 1, impl.ExIf: 1, impl.ExAdd: 2, impl.ExSame: 2, impl.ExIn: 1, impl.ExRecord: len(e.Kids), impl.ExCall: len(e.Kids)}[e.Kind]
	few := map[int]int{impl.ExField: 1, impl.ExIf: 3, impl.ExAdd: 2, impl.ExSame: 2, impl.ExIn: 2, impl.ExRecord: len(e.Names), impl.ExCall: 1}[e.Kind]
	known := e.Kind >= impl.ExInt && e.Kind <= impl.ExIn && len(e.Kids) >= few
	if !known {
		needed = len(e.Kids)
	}
	vals, code := w.kids(scope, e, 0, needed, calls)
	if code != impl.RunOk {
		return impl.Val{}, code
	}
	if known {
		if v, code := w.made(scope, e, vals, calls); code != impl.RunStuck || v.Kind < 0 {
			return impl.Val{Kind: max(v.Kind, 0), N: v.N, S: v.S, Names: v.Names, Kids: v.Kids}, code
		}
	}
	if _, code := w.kids(scope, e, needed, len(e.Kids), calls); code != impl.RunOk {
		return impl.Val{}, code
	}
	return impl.Val{}, impl.RunStuck
}

// made has a Kind below 0 where it is not the expression itself that makes no sense, but one within it.
func (w *wordsRun) made(scope []wordsGiven, e impl.Exp, vals []impl.Val, calls int) (impl.Val, int) {
	within := func(scope []wordsGiven, e impl.Exp, calls int) (impl.Val, int) {
		v, code := w.eval(scope, e, calls)
		if code == impl.RunStuck {
			v.Kind = -1
		}
		return v, code
	}
	ok := func(v impl.Val, is bool) (impl.Val, int) {
		if !is {
			return impl.Val{}, impl.RunStuck
		}
		return v, impl.RunOk
	}
	switch e.Kind {
	case impl.ExInt:
		return vInt(e.N), impl.RunOk
	case impl.ExText:
		return vText(e.Text), impl.RunOk
	case impl.ExTrue:
		return vTrue, impl.RunOk
	case impl.ExFalse:
		return vFalse, impl.RunOk
	case impl.ExName:
		return ok(lastGiven(scope, e.Text))
	case impl.ExMod:
		return ok(w.export(e))
	case impl.ExRecord:
		return ok(recordVal(e.Names, vals))
	case impl.ExField:
		at := slices.Index(vals[0].Names, e.Text)
		if vals[0].Kind != impl.VRecord || at < 0 {
			return ok(impl.Val{}, false)
		}
		return vals[0].Kids[at], impl.RunOk
	case impl.ExIf:
		if vals[0].Kind == impl.VBool {
			return within(scope, e.Kids[2-vals[0].N], calls)
		}
	case impl.ExAdd:
		a, b := vals[0], vals[1]
		a.N, a.S = a.N+b.N, a.S+b.S
		return ok(a, a.Kind == b.Kind && a.Kind <= impl.VText)
	case impl.ExSame:
		if sameVal(vals[0], vals[1]) {
			return vTrue, impl.RunOk
		}
		return vFalse, impl.RunOk
	case impl.ExIn:
		return within(append(slices.Clone(scope), wordsGiven{e.Text, vals[0]}), e.Kids[1], calls)
	case impl.ExCall:
		inner, body, is := w.called(vals)
		if is && calls == 60 {
			return impl.Val{}, impl.RunFuel
		}
		if is {
			return within(inner, body, calls+1)
		}
	}
	return impl.Val{}, impl.RunStuck
}

func recordVal(names []string, vals []impl.Val) (impl.Val, bool) {
	out := impl.Val{Kind: impl.VRecord}
	if len(names) != len(vals) {
		return impl.Val{}, false
	}
	for _, name := range slices.Sorted(slices.Values(names)) {
		if slices.Contains(out.Names, name) {
			return impl.Val{}, false
		}
		out.Names = append(out.Names, name)
		out.Kids = append(out.Kids, vals[slices.Index(names, name)])
	}
	return out, true
}

func (w *wordsRun) export(e impl.Exp) (impl.Val, bool) {
	for u := range w.at {
		if w.units[u].Name != e.Text || len(e.Names) == 0 {
			continue
		}
		for _, d := range slices.Backward(w.told[u]) {
			if d.Name == e.Names[0] {
				return d.Val, true
			}
		}
		break
	}
	return impl.Val{}, false
}

// called is what a function sees, and its Exp.
func (w *wordsRun) called(vals []impl.Val) ([]wordsGiven, impl.Exp, bool) {
	f := vals[0]
	if f.Kind != impl.VFn || f.N != len(vals)-1 {
		return nil, impl.Exp{}, false
	}
	for u, unit := range w.units {
		if unit.Name != f.Names[0] {
			continue
		}
		for i, d := range unit.Module.Defs {
			if d.Kind == impl.DefFn && d.Name == f.Names[1] && len(d.Params) == f.N {
				scope := append(w.ahead(unit.Name, u, i), wordsGiven{d.Name, f})
				for at, name := range d.Params {
					scope = append(scope, wordsGiven{name, vals[at+1]})
				}
				return scope, d.Exp, true
			}
		}
	}
	return nil, impl.Exp{}, false
}

func valFitsByWords(env []impl.Named, v impl.Val, x impl.Type) bool {
	if !envByWords(env) || !okByWords(x, 0) {
		return false
	}
	x = openByWords(env, x)
	switch x.Kind {
	case impl.TyInt, impl.TyText, impl.TyBool:
		return v.Kind == x.Kind
	case impl.TyRecord:
		for i, name := range x.Names {
			at := slices.Index(v.Names, name)
			if at < 0 || at >= len(v.Kids) || !valFitsByWords(env, v.Kids[at], x.Kids[i]) {
				return false
			}
		}
		return v.Kind == impl.VRecord
	case impl.TyFn:
		return v.Kind == impl.VFn && v.N == len(x.Kids)-1
	case impl.TyUnion:
		return slices.ContainsFunc(x.Kids, func(kid impl.Type) bool { return valFitsByWords(env, v, kid) })
	}
	return true
}

func valTextByWords(v impl.Val) string {
	switch v.Kind {
	case impl.VInt:
		return strconv.Itoa(v.N)
	case impl.VText:
		return "\"" + v.S + "\""
	case impl.VBool:
		return strconv.FormatBool(v.N == 1)
	case impl.VRecord:
		var fields []string
		for i, name := range v.Names {
			kid := impl.Val{Kind: -1}
			if i < len(v.Kids) {
				kid = v.Kids[i]
			}
			fields = append(fields, name+" = "+valTextByWords(kid))
		}
		return "{" + strings.Join(fields, ", ") + "}"
	case impl.VFn:
		return "fn " + strings.Join(v.Names, ".")
	}
	return ""
}

// runAsByWords tells how it ended.
func runAsByWords(t *testing.T, units []impl.Unit, fuel int) []impl.Done {
	t.Helper()
	got, want := impl.Run(units, fuel), runByWords(units, fuel)
	if !sameDone(got, want) {
		t.Fatalf("Run by %d of\n%s=\n%s\nwant\n%s", fuel, unitsText(units), doneText(got), doneText(want))
	}
	for _, d := range got {
		if impl.ValText(d.Val) != valTextByWords(d.Val) {
			t.Fatalf("ValText of %+v is %q", d.Val, impl.ValText(d.Val))
		}
	}
	return got
}

// A runMaker writes modules that are right, without any, but for one expression in so many. What it needs for
// functions stands ahead of the definition for which it does.
type runMaker struct {
	checkMaker
	globals []impl.Named
	locals  []impl.Named
	ahead   string
}

func (m *runMaker) ownName(head string) string {
	return m.mod + "." + m.freshName(head)
}

func (m *runMaker) someType(room int) impl.Type {
	way := m.next(12)
	switch {
	case way < 4 && len(m.env) > 0:
		return m.typeName()
	case room <= 0 || way < 7:
		return listT(intT, intT, textT, boolT)[m.next(4)]
	case way == 7:
		return recordT("a", m.someType(room-1))
	case way == 8:
		return recordT("a b", m.someType(room-1), m.someType(room-1))
	case way == 9:
		return fnT(m.someType(room-1), m.someType(room-1))
	case way == 10:
		u, _ := impl.Union(listT(m.someType(room-1), m.someType(room-1)))
		return u
	}
	return listT(fnT(intT), fnT(intT, intT, textT), recordT(""), unionT(boolT, intT))[m.next(4)]
}

func (m *runMaker) ownTypes() string {
	text := ""
	for range m.next(4) {
		name := m.ownName("T")
		self := nameT(name)
		x := m.someType(1)
		switch m.next(6) {
		case 0:
			next, _ := impl.Union(listT(self, boolT))
			x = recordT("n v", next, x)
		case 1:
			next, _ := impl.Union(listT(self, intT))
			x = recordT("l r", next, next)
		case 2:
			x = recordT("f v", fnT(self, x), m.someType(1))
		case 3:
			x, _ = impl.Union(listT(x, m.someType(1), recordT("b", m.someType(0))))
		case 4:
			x = fnT(x, m.someType(0))
		}
		m.env = append(m.env, impl.Named{Name: name, Type: x})
		slices.SortFunc(m.env, func(a, b impl.Named) int { return strings.Compare(a.Name, b.Name) })
		text += "type " + strings.TrimPrefix(name, m.mod+".") + " = " + m.written(x) + "\n"
	}
	return text
}

func (m *runMaker) written(x impl.Type) string {
	return strings.ReplaceAll(impl.TypeText(x), m.mod+".", "")
}

func (m *runMaker) exp(want impl.Type, room int) string {
	if m.isAmiss() {
		return []string{"nope", "1.a", "1(2)", "m0.nope", "(1 + true)", "(if 1 then 2 else 3)", "{a = 1}.b", "{}", "\"x\"", "5", "v1", "v2"}[m.next(12)]
	}
	if way := m.next(5); way < 2 {
		if found := m.named(want, room-1); found != "" {
			return found
		}
	} else if way < 4 && room > 0 {
		return m.around(want, room-1)
	}
	return m.straight(want, room-1)
}

// named is something that is there and fits, has a field that does, or is a function that gives it.
func (m *runMaker) named(want impl.Type, room int) string {
	var found []string
	add := func(name string, of impl.Type) {
		open := impl.Open(m.env, of)
		switch {
		case impl.Fits(m.env, of, want):
			found = append(found, name)
		case open.Kind == impl.TyRecord:
			for i, field := range open.Names {
				if impl.Fits(m.env, open.Kids[i], want) {
					found = append(found, name+"."+field)
				}
			}
		case open.Kind == impl.TyFn && room > -2 && impl.Fits(m.env, open.Kids[len(open.Kids)-1], want):
			found = append(found, name+"("+m.given(open.Kids[:len(open.Kids)-1], room-1)+")")
		}
	}
	for _, n := range slices.Concat(m.locals, m.globals) {
		if m.next(2) == 0 {
			add(n.Name, n.Type)
		}
	}
	for _, lib := range m.libs {
		for _, n := range lib.Exports {
			if m.next(3) == 0 {
				add(lib.Name+"."+n.Name, n.Type)
			}
		}
	}
	if len(found) == 0 {
		return ""
	}
	return found[m.next(len(found))]
}

func (m *runMaker) given(types []impl.Type, room int) string {
	var list []string
	for _, x := range types {
		list = append(list, m.exp(x, room))
	}
	return strings.Join(list, ", ")
}

func (m *runMaker) around(want impl.Type, room int) string {
	of := m.someType(1)
	switch m.next(7) {
	case 0:
		return "(if " + m.exp(boolT, room) + " then " + m.exp(want, room) + " else " + m.exp(want, room) + ")"
	case 1:
		name := m.freshName("q")
		text := "(let " + name + " = " + m.exp(of, room) + " in "
		m.locals = append(m.locals, impl.Named{Name: name, Type: of})
		text += m.exp(want, room) + ")"
		m.locals = m.locals[:len(m.locals)-1]
		return text
	case 2:
		return "{b = " + m.exp(of, room) + ", a = " + m.exp(want, room) + "}.a"
	case 3:
		return m.fn(listT(of), want, room) + "(" + m.exp(of, room) + ")"
	case 4:
		name := m.freshName("c")
		m.writeFn(name, listT(intT, of), want, func() string {
			return "if p0 == 3 then " + m.exp(want, room) + " else " + name + "(p0 + 1, " + m.exp(of, room-1) + ")"
		})
		return name + "(" + strconv.Itoa(m.next(3)) + ", " + m.exp(of, room) + ")"
	case 5:
		name := m.freshName("g")
		m.writeFn(name, listT(fnT(of, want), of), want, func() string { return "p0(p1)" })
		return name + "(" + m.given(listT(fnT(of, want), of), room) + ")"
	}
	if want.Kind == impl.TyInt || want.Kind == impl.TyText {
		return "(" + m.exp(want, room) + " + " + m.exp(want, room) + ")"
	}
	return m.straight(want, room)
}

// writeFn puts a function ahead: of what is given where it is called, nothing is to be seen within it.
func (m *runMaker) writeFn(name string, params []impl.Type, gives impl.Type, body func() string) {
	before := m.locals
	m.locals = nil
	var texts []string
	for i, x := range params {
		texts = append(texts, "p"+strconv.Itoa(i)+": "+m.written(x))
		m.locals = append(m.locals, impl.Named{Name: "p" + strconv.Itoa(i), Type: x})
	}
	text := "fn " + name + "(" + strings.Join(texts, ", ") + "): " + m.written(gives) + " = " + body() + "\n"
	m.locals = before
	m.ahead += text
	m.globals = append(m.globals, impl.Named{Name: name, Type: fnT(append(slices.Clone(params), gives)...)})
}

func (m *runMaker) fn(params []impl.Type, gives impl.Type, room int) string {
	name := m.freshName("h")
	m.writeFn(name, params, gives, func() string {
		if room > -3 {
			return m.exp(gives, room-1)
		}
		var list []string
		for i := range params {
			list = append(list, "p"+strconv.Itoa(i))
		}
		return name + "(" + strings.Join(list, ", ") + ")"
	})
	return name
}

func (m *runMaker) straight(want impl.Type, room int) string {
	switch want.Kind {
	case impl.TyInt:
		return strconv.Itoa(m.next(9))
	case impl.TyText:
		return []string{`"s"`, `""`, `"tu"`}[m.next(3)]
	case impl.TyBool:
		if room > 0 && m.next(2) == 0 {
			of := m.someType(1)
			return "(" + m.exp(of, room-1) + " == " + m.exp(of, room-1) + ")"
		}
		return []string{"true", "false"}[m.next(2)]
	case impl.TyName:
		of, _ := impl.Lookup(m.env, want.Name)
		return m.straight(of, room-1)
	case impl.TyRecord:
		var fields []string
		for i, name := range want.Names {
			fields = append(fields, name+" = "+m.exp(want.Kids[i], room-1))
		}
		if m.next(4) == 0 {
			fields = append([]string{"zz = " + m.exp(intT, room-1)}, fields...)
		}
		return "{" + strings.Join(fields, ", ") + "}"
	case impl.TyFn:
		last := len(want.Kids) - 1
		return m.fn(want.Kids[:last], want.Kids[last], room-1)
	}
	kid := want.Kids[m.next(len(want.Kids))]
	for _, plain := range want.Kids {
		if room <= 0 && plain.Kind <= impl.TyBool {
			kid = plain
		}
	}
	return m.straight(kid, room-1)
}

func (m *runMaker) source() string {
	text := ""
	for _, lib := range m.libs {
		text += "import " + lib.Name + "\n"
		for _, n := range lib.Types {
			if _, ok := lookupByWords(m.env, n.Name); !ok {
				m.env = append(m.env, n)
			}
		}
	}
	slices.SortFunc(m.env, func(a, b impl.Named) int { return strings.Compare(a.Name, b.Name) })
	text += m.ownTypes()
	for range 2 + m.next(4) {
		name, of := m.freshName("v"), m.someType(2)
		m.ahead, m.locals = "", nil
		own := ""
		switch m.next(3) {
		case 0:
			own = "let " + name + " = " + m.exp(of, 2) + "\n"
		case 1:
			own = "let " + name + ": " + m.written(of) + " = " + m.exp(of, 2) + "\n"
		case 2:
			params := listT(m.someType(1), m.someType(1))[:m.next(3)]
			m.writeFn(name, params, of, func() string { return m.exp(of, 2) })
			text += m.ahead
			continue
		}
		text += m.ahead + own
		m.globals = append(m.globals, impl.Named{Name: name, Type: of})
	}
	return text
}

// A madeSet is of modules each of which may import those ahead of it.
type madeSet struct {
	units     []impl.Unit
	summaries []impl.Summary
	right     bool
}

func makeSet(bytes []byte, amiss int) madeSet {
	set := madeSet{right: true}
	maker := &typeMaker{bytes: bytes}
	for i := range 1 + maker.next(4) {
		mod := "m" + strconv.Itoa(i)
		own := &runMaker{checkMaker: checkMaker{typeMaker: *maker, amiss: amiss, mod: mod}}
		for _, s := range set.summaries {
			if own.next(3) > 0 && !s.Bad {
				own.libs = append(own.libs, s)
			}
		}
		m, line := impl.ParseModule(own.source())
		maker.at = own.at
		if line != 0 {
			continue
		}
		wrong, s := impl.CheckModule(mod, m, own.libs)
		set.right = set.right && len(wrong) == 0
		set.units = append(set.units, impl.Unit{Name: mod, Module: m})
		set.summaries = append(set.summaries, s)
	}
	return set
}

func tellsAny(s impl.Summary) bool {
	return slices.ContainsFunc(slices.Concat(s.Types, s.Exports), func(n impl.Named) bool { return impl.HasAny(n.Type) })
}

func TestRunsAsTheDocumentsWordsTell(t *testing.T) {
	ends, kinds := map[int]int{}, map[int]int{}
	for _, amiss := range []int{0, 60, 15} {
		for seed := range uint64(700) {
			set := makeSet(someBytes(seed+uint64(amiss)*7919, 4000), amiss)
			for _, fuel := range []int{int(seed % 60), 300, 3000} {
				list := runAsByWords(t, set.units, fuel)
				for i, d := range list {
					kinds[d.Val.Kind]++
					if i == len(list)-1 {
						ends[d.Code]++
					}
				}
			}
		}
	}
	if ends[impl.RunOk] < 500 || ends[impl.RunStuck] < 500 || ends[impl.RunFuel] < 500 {
		t.Error("the test's runs end in one way:", ends)
	}
	for kind := range 5 {
		if kinds[kind] < 500 {
			t.Error("few values are of one kind:", kinds)
		}
	}
}

// A sourceless unit is thrown together, with names that stand there often.
func handUnits(m *handMaker) []impl.Unit {
	var units []impl.Unit
	for range 1 + m.next(4) {
		units = append(units, impl.Unit{Name: []string{"m", "n", "m", "k"}[m.next(4)], Module: m.module()})
	}
	return units
}

func TestUnitsThrownTogetherAsTheDocumentsWordsTell(t *testing.T) {
	done, ends := 0, map[int]int{}
	for seed := range uint64(20000) {
		m := &handMaker{typeMaker{bytes: someBytes(seed+3000000, 900)}}
		units := handUnits(m)
		list := runAsByWords(t, units, m.next(40))
		if len(list) > 0 {
			ends[list[len(list)-1].Code]++
		}
		done += len(runAsByWords(t, units, 500))
	}
	if done < 40000 || ends[impl.RunOk] < 1000 || ends[impl.RunStuck] < 1000 || ends[impl.RunFuel] < 1000 {
		t.Error("the test's runs are of one sort:", done, ends)
	}
}

// Units in whatever order, doubled and of one name, so that much is seen that another one had.
func TestUnitsTurnedAroundAsTheDocumentsWordsTell(t *testing.T) {
	stuck, ok := 0, 0
	for seed := range uint64(600) {
		set := makeSet(someBytes(seed+50000, 4000), 0)
		m := &typeMaker{bytes: someBytes(seed, 100)}
		units := slices.Clone(set.units)
		for range 2 {
			units = append(units, units[m.next(len(units))])
		}
		for i := range units {
			at := m.next(i + 1)
			units[i], units[at] = units[at], units[i]
			if m.next(3) == 0 {
				units[at].Name = "m0"
			}
		}
		for _, d := range runAsByWords(t, units, 2000) {
			switch d.Code {
			case impl.RunOk:
				ok++
			case impl.RunStuck:
				stuck++
			}
		}
	}
	if stuck < 100 || ok < 2000 {
		t.Error("the test's runs are of one sort:", stuck, ok)
	}
}

// wantPromiseOfRun is promise 7; it tells how many values were told.
func wantPromiseOfRun(t *testing.T, set madeSet, fuel int) int {
	t.Helper()
	count := 0
	for _, d := range impl.Run(set.units, fuel) {
		at := slices.IndexFunc(set.summaries, func(s impl.Summary) bool { return s.Name == d.Unit })
		s := set.summaries[at]
		of, ok := impl.Lookup(s.Exports, d.Name)
		switch {
		case d.Code == impl.RunStuck:
			t.Fatalf("%s.%s makes no sense, in modules that are right:\n%s", d.Unit, d.Name, unitsText(set.units))
		case d.Code == impl.RunOk && !(ok && impl.ValFits(s.Types, d.Val, of)):
			t.Fatalf("%s.%s is %s, but told as %s, in\n%s", d.Unit, d.Name, impl.ValText(d.Val), impl.TypeText(of), unitsText(set.units))
		case d.Code == impl.RunOk:
			count++
		}
	}
	return count
}

func TestRightModulesNeverComeToWhatMakesNoSense(t *testing.T) {
	sets, values, wide, whole := 0, 0, 0, 0
	for seed := range uint64(3500) {
		set := makeSet(someBytes(seed+900000, 4000), 0)
		if !set.right || slices.ContainsFunc(set.summaries, tellsAny) {
			continue
		}
		sets++
		if len(set.units) > 1 {
			wide++
		}
		count := wantPromiseOfRun(t, set, 5000)
		values += count
		if last := impl.Run(set.units, 5000); len(last) > 0 && last[len(last)-1].Code == impl.RunOk {
			whole++
		}
	}
	if sets < 2000 || wide < 1000 || values < 20000 || whole < 1000 {
		t.Error("few of the test's modules are right:", sets, wide, values, whole)
	}
}

// Modules in which one part was put for another are wrong mostly; those that are right all the same keep the
// promise.
func TestModulesWithAPartAmissKeepThePromise(t *testing.T) {
	right, wrong := 0, 0
	for seed := range uint64(1500) {
		bytes := someBytes(seed+400000, 4000)
		set := makeSet(bytes, 0)
		if !set.right || len(set.units) == 0 {
			continue
		}
		m := &typeMaker{bytes: bytes[2000:]}
		last := len(set.units) - 1
		for range 6 {
			changed := madeSet{units: slices.Clone(set.units), summaries: slices.Clone(set.summaries)}
			changed.units[last].Module = partsExchanged(m, set.units[last].Module)
			faults, s := impl.CheckModule(set.units[last].Name, changed.units[last].Module, set.summaries[:last])
			changed.summaries[last] = s
			if len(faults) > 0 || slices.ContainsFunc(changed.summaries, tellsAny) {
				wrong++
				continue
			}
			right++
			wantPromiseOfRun(t, changed, 1000)
		}
	}
	if right < 500 || wrong < 500 {
		t.Error("the test's modules are of one sort:", right, wrong)
	}
}

// partsExchanged is a copy in which one expression stands in the place of another one.
func partsExchanged(m *typeMaker, of impl.Module) impl.Module {
	out := plain(of, true)
	var places []*impl.Exp
	var walk func(e *impl.Exp)
	walk = func(e *impl.Exp) {
		places = append(places, e)
		for i := range e.Kids {
			walk(&e.Kids[i])
		}
	}
	for i := range out.Defs {
		if out.Defs[i].Kind != impl.DefType {
			walk(&out.Defs[i].Exp)
		}
	}
	if len(places) > 0 {
		from, to := m.next(251)*251+m.next(251), m.next(251)*251+m.next(251)
		part := plainExps([]impl.Exp{*places[from%len(places)]}, true)[0]
		*places[to%len(places)] = part
	}
	return out
}

func TestWithMoreFuelTheSameIsToldAndMore(t *testing.T) {
	more := 0
	for _, amiss := range []int{0, 30} {
		for seed := range uint64(150) {
			set := makeSet(someBytes(seed+uint64(amiss)*31+70000, 3000), amiss)
			before := impl.Run(set.units, 0)
			for fuel := 1; fuel < 400; fuel += 1 + fuel/20 {
				list := impl.Run(set.units, fuel)
				last := len(before) - 1
				if last < 0 || before[last].Code != impl.RunFuel {
					if !sameDone(list, before) {
						t.Fatalf("by %d another one is told of\n%s", fuel, unitsText(set.units))
					}
					continue
				}
				if len(list) <= last || !sameDone(list[:last], before[:last]) || list[last].Name != before[last].Name {
					t.Fatalf("by %d not what was told by less of\n%s", fuel, unitsText(set.units))
				}
				if len(list) > len(before) {
					more++
				}
				before = list
			}
		}
	}
	if more < 500 {
		t.Error("little more is told:", more)
	}
}

// someVal is of a type, if it comes to an end there.
func (m *runMaker) someVal(x impl.Type, room int) impl.Val {
	x = impl.Open(m.env, x)
	switch x.Kind {
	case impl.TyText:
		return vText([]string{"", "x"}[m.next(2)])
	case impl.TyBool:
		return impl.Val{Kind: impl.VBool, N: m.next(2)}
	case impl.TyFn:
		return vFn("m", "f", len(x.Kids)-1)
	case impl.TyRecord:
		v := impl.Val{Kind: impl.VRecord, Names: slices.Clone(x.Names)}
		for _, kid := range x.Kids {
			if room < 0 {
				kid = intT
			}
			v.Kids = append(v.Kids, m.someVal(kid, room-1))
		}
		if m.next(3) == 0 {
			v.Names, v.Kids = append(v.Names, "zz"), append(v.Kids, vInt(1))
		}
		return v
	case impl.TyUnion:
		return m.someVal(x.Kids[m.next(len(x.Kids))], room)
	}
	return vInt(m.next(3))
}

func TestValuesAreOfEachTypeThatTheirsFits(t *testing.T) {
	of, on, notOf := 0, 0, 0
	for seed := range uint64(150) {
		m, env := madeEnv(someBytes(seed+7000, 2500), false)
		types := listT(nameT("A"), nameT("B"), nameT("m.A"), m.one(2), m.shape(2), m.shape(2), m.one(1))
		for _, x := range types[:4] {
			open := impl.Open(env, x)
			types = append(types, open)
			if u, ok := impl.Union(listT(open, m.one(1))); ok {
				types = append(types, u)
			}
		}
		if !impl.EnvOk(env) {
			continue
		}
		maker := &runMaker{checkMaker: checkMaker{typeMaker: m.typeMaker, env: env}}
		without := isToldWithoutAny(env, types)
		for _, a := range types {
			for range 4 {
				v := maker.someVal(a, 3)
				isOf := impl.ValFits(env, v, a)
				if isOf != valFitsByWords(env, v, a) || isOf != impl.ValFits(env, v, impl.Open(env, a)) {
					t.Fatalf("ValFits(%v, %s, %s) = %t", envText(env), impl.ValText(v), impl.TypeText(a), isOf)
				}
				for _, b := range types {
					got := impl.ValFits(env, v, b)
					if got != valFitsByWords(env, v, b) {
						t.Fatalf("ValFits(%v, %s, %s) = %t", envText(env), impl.ValText(v), impl.TypeText(b), got)
					}
					if !without || !isOf || !impl.Fits(env, a, b) {
						if !got {
							notOf++
						}
						continue
					}
					on++
					if !got {
						t.Fatalf("%s is of %s, which fits %s, but not of that, in %v", impl.ValText(v), impl.TypeText(a), impl.TypeText(b), envText(env))
					}
				}
				if isOf {
					of++
				}
			}
		}
	}
	if of < 2000 || on < 3000 || notOf < 3000 {
		t.Error("the test's values are of one sort:", of, on, notOf)
	}
}

func TestValuesThatAreToldAreOfWhatFits(t *testing.T) {
	on := 0
	for seed := range uint64(400) {
		set := makeSet(someBytes(seed+120000, 4000), 0)
		if !set.right || slices.ContainsFunc(set.summaries, tellsAny) {
			continue
		}
		for _, d := range impl.Run(set.units, 3000) {
			at := slices.IndexFunc(set.summaries, func(s impl.Summary) bool { return s.Name == d.Unit })
			s := set.summaries[at]
			a, _ := impl.Lookup(s.Exports, d.Name)
			for _, n := range slices.Concat(s.Exports, s.Types) {
				if d.Code == impl.RunOk && impl.Fits(s.Types, a, n.Type) {
					on++
					if !impl.ValFits(s.Types, d.Val, n.Type) || !impl.ValFits(s.Types, d.Val, anyT) {
						t.Fatalf("%s is of %s, but not of %s", impl.ValText(d.Val), impl.TypeText(a), impl.TypeText(n.Type))
					}
				}
			}
		}
	}
	if on < 2000 {
		t.Error("few types fit:", on)
	}
}

// someRoughVal is thrown together, right and wrong.
func someRoughVal(m *typeMaker, room int) impl.Val {
	v := impl.Val{Kind: []int{0, 1, 2, 3, 3, 3, 4, 4, 9, -1}[m.next(10)], N: m.next(4), S: []string{"", "x"}[m.next(2)]}
	if v.Kind < impl.VRecord && m.next(8) > 0 || room == 0 {
		return v
	}
	v.Names = []string{"a", "b", "c", "a"}[m.next(2) : 2+m.next(3)]
	for range len(v.Names) - m.next(8)/7 {
		v.Kids = append(v.Kids, someRoughVal(m, room-1))
	}
	return v
}

func TestRoughValuesAsTheDocumentsWordsTell(t *testing.T) {
	yes, no := 0, 0
	for seed := range uint64(4000) {
		m, env := madeEnv(someBytes(seed+1234, 1200), seed%2 == 0)
		if seed%9 == 0 {
			slices.Reverse(env)
		}
		v := someRoughVal(&m.typeMaker, 3)
		if got, want := impl.ValText(v), valTextByWords(v); got != want {
			t.Fatalf("ValText(%+v) = %q, want %q", v, got, want)
		}
		for _, x := range listT(m.one(2), m.shape(2), nameT("A"), m.make(2), intT, anyT, recordT(""), recordT("b", anyT)) {
			got := impl.ValFits(env, v, x)
			if got != valFitsByWords(env, v, x) {
				t.Fatalf("ValFits(%v, %+v, %s) = %t", envText(env), v, impl.TypeText(x), got)
			}
			if got {
				yes++
			} else {
				no++
			}
		}
	}
	if yes < 5000 || no < 10000 {
		t.Error("the test's values are of one sort:", yes, no)
	}
}

func (m *memoryOf) addVals(list []impl.Val) {
	list = list[:cap(list)]
	for i := range list {
		m.places[&list[i]]++
		m.addVal(list[i])
	}
}

func (m *memoryOf) addVal(v impl.Val) {
	m.texts = append(m.texts, v.S)
	m.addNames(v.Names)
	m.addVals(v.Kids)
}

func (m *memoryOf) addDone(list []impl.Done) {
	list = list[:cap(list)]
	for i, d := range list {
		m.places[&list[i]]++
		m.texts = append(m.texts, d.Unit, d.Name)
		m.addVal(d.Val)
	}
}

func roomyUnits(units []impl.Unit) []impl.Unit {
	var out []impl.Unit
	for _, u := range units {
		out = append(out, impl.Unit{Name: strings.Clone(u.Name), Module: roomyModule(u.Module)})
	}
	return append(out, unitOf("spare", letDef("spare", exInt(1))))[:len(units)]
}

func roomyVal(v impl.Val) impl.Val {
	v.S = strings.Clone(v.S)
	v.Names = append(plainNames(v.Names), "spare")[:len(v.Names)]
	var kids []impl.Val
	for _, kid := range v.Kids {
		kids = append(kids, roomyVal(kid))
	}
	v.Kids = append(kids, vText("spare"))[:len(kids)]
	return v
}

// wantNewRun calls each function of the chapter with lists that have room behind them.
func wantNewRun(t *testing.T, units []impl.Unit, fuel int, env []impl.Named, x impl.Type) {
	t.Helper()
	units, env, x = roomyUnits(units), roomyEnv(env), roomy(x)
	all := func(of any) any { return wholeModule(reflect.ValueOf(of)).Interface() }
	before, beforeEnv, beforeType := all(units), wholeEnv(env), wholeOf(x)
	given := newMemory()
	for i, u := range units[:cap(units)] {
		given.places[&units[:cap(units)][i]]++
		given.texts = append(given.texts, u.Name)
		given.addModule(u.Module)
	}
	list := impl.Run(units, fuel)
	answer := newMemory()
	answer.addDone(list)
	wantNewMemory(t, "Run", answer, given)
	for _, d := range list {
		v := roomyVal(d.Val)
		beforeVal := all(v)
		impl.ValFits(env, v, x)
		text := impl.ValText(v)
		if !reflect.DeepEqual(all(v), beforeVal) {
			t.Fatalf("written into a value %s", text)
		}
		of, shown := newMemory(), newMemory()
		of.addVal(v)
		shown.texts = append(shown.texts, text)
		wantNewMemory(t, "ValText", shown, of)
	}
	if !reflect.DeepEqual(all(units), before) || !reflect.DeepEqual(wholeEnv(env), beforeEnv) || !reflect.DeepEqual(wholeOf(x), beforeType) {
		t.Fatalf("written into the arguments of\n%s", unitsText(units))
	}
}

func TestNothingIsWrittenIntoUnitsAndAnswersAreNew(t *testing.T) {
	for _, amiss := range []int{0, 20} {
		for seed := range uint64(60) {
			set := makeSet(someBytes(seed+uint64(amiss)*17+990000, 4000), amiss)
			if len(set.summaries) == 0 {
				continue
			}
			last := set.summaries[len(set.summaries)-1]
			wantNewRun(t, set.units, 2000, last.Types, append(last.Exports, impl.Named{})[0].Type)
		}
	}
	for seed := range uint64(300) {
		m := &handMaker{typeMaker{bytes: someBytes(seed+660000, 900)}}
		wantNewRun(t, handUnits(m), 300, m.env(true), m.someType())
	}
	shared := lines("let a = {x = {y = 1, z = \"t\"}}", "let b = a", "let c = {l = a, r = a, s = a.x}", "fn f(p: int): int = p", "let d = f", "let e = {f = f, g = d}", "fn f(q: int): int = q", "let g = c == {l = b, r = b, s = a.x}")
	wantNewRun(t, unitsFrom(t, "abcdefghijkl", shared, "main", "import abcdefghijkl\nlet a = abcdefghijkl.c\nlet b = abcdefghijkl.f\nlet c = \"\" + \"a text\"\nlet d = c + \"\"\nlet e = \"a text\""), 1000, rightEnv(t, "T = {x: T}"), nameT("T"))
}

// A run by units that are the same lists, or pieces of them, is as one by copies.
func TestUnitsThatShareLists(t *testing.T) {
	e := exAdd(exName("x"), exName("y"))
	body := exIf(exSame(exName("x"), exInt(3)), e, exCall(exName("f"), exAdd(exName("x"), exInt(1)), exName("y")))
	units := []impl.Unit{
		unitOf("m", letDef("x", exInt(1)), letDef("y", exInt(2)), letDef("a", e), fnDef("f", "x y", nil, intT, body), letDef("b", exCall(exName("f"), exInt(0), exInt(9)))),
		unitOf("n", letDef("y", exText("u")), letDef("x", exText("t")), letDef("a", e), letDef("x", exText("s")), letDef("b", e), letDef("c", exIn("x", exText("r"), e))),
	}
	wantRun(t, units, muchFuel, "m.x 1", "m.y 2", "m.a 3", "m.f fn m.f", "m.b 12", `n.y "u"`, `n.x "t"`, `n.a "tu"`, `n.x "s"`, `n.b "su"`, `n.c "ru"`)
	var copies []impl.Unit
	for _, u := range units {
		copies = append(copies, impl.Unit{Name: u.Name, Module: plain(u.Module, true)})
	}
	for fuel := range 100 {
		if !sameDone(impl.Run(units, fuel), impl.Run(copies, fuel)) {
			t.Error("by", fuel)
		}
	}
	if !sameDone(impl.Run(units, 77), impl.Run(units, 77)) {
		t.Error("something is kept")
	}
}

func TestExpressionsWithinThemselvesAreRun(t *testing.T) {
	for kind := -1; kind <= impl.ExIn+1; kind++ {
		for kids := 1; kids < 4; kids++ {
			e := expWithinItself(kind, kids)
			want := "m.a fuel"
			switch kind {
			case impl.ExInt:
				want = "m.a 0"
			case impl.ExText:
				want = "m.a \"t\""
			case impl.ExTrue:
				want = "m.a true"
			case impl.ExFalse:
				want = "m.a false"
			}
			for _, fuel := range []int{1000, 200000} {
				wantRun(t, []impl.Unit{unitOf("m", letDef("a", e), letDef("b", exInt(1)))}, fuel, strings.Split(want+map[bool]string{true: "\nm.b 1"}[want != "m.a fuel"], "\n")...)
			}
			wantRun(t, []impl.Unit{unitOf("m", fnDef("f", "x", nil, intT, e), letDef("b", exCall(exName("f"), exName("f"))))}, 4000, "m.f fn m.f", map[bool]string{true: "m.b fuel", false: "m.b " + strings.TrimPrefix(want, "m.a ")}[want == "m.a fuel"])
		}
	}
	// with all the fuel that there may be, there is an end
	for _, kind := range []int{impl.ExCall, impl.ExAdd, impl.ExIn, impl.ExIf, 99} {
		wantRun(t, []impl.Unit{unitOf("m", letDef("a", expWithinItself(kind, 3)))}, math.MaxInt, "m.a fuel")
	}
	wantRun(t, []impl.Unit{unitOf("m", letDef("a", expWithinItself(impl.ExCall, 5000)))}, math.MaxInt, "m.a fuel")
	// one that comes to its end on its way
	loop := exIf(exName("b"), exInt(7), exInt(0))
	loop.Kids[2] = exIn("b", exTrue, loop)
	wantRun(t, []impl.Unit{unitOf("m", letDef("b", exFalse), letDef("a", loop))}, 8, "m.b false", "m.a 7")
	wantRun(t, []impl.Unit{unitOf("m", letDef("b", exFalse), letDef("a", loop))}, 7, "m.b false", "m.a fuel")
}

func TestDeepAndWideExpressionsAreRun(t *testing.T) {
	const many = 200000
	sum, in, field, wide := exInt(0), exName("x3"), exName("r"), exRecord("")
	nested, chosen := exInt(1), exInt(1)
	for i := range many {
		sum = exAdd(sum, exInt(1))
		in = exIn("x"+strconv.Itoa(i%7), exInt(i), in)
		field = exIn("r", exRecord("a", exName("r")), field)
		nested = exField(exRecord("a", nested), "a")
		chosen = exIf(exTrue, chosen, exName("nope"))
		wide.Names = append(wide.Names, "a"+strconv.Itoa(many-i))
		wide.Kids = append(wide.Kids, exInt(i))
	}
	wantVal(t, "", sum, vInt(many), impl.RunOk)
	wantVal(t, "", in, vInt(3), impl.RunOk)
	wantVal(t, "", nested, vInt(1), impl.RunOk)
	wantVal(t, "", chosen, vInt(1), impl.RunOk)
	wantRun(t, []impl.Unit{unitOf("m", letDef("a", sum))}, 2*many, "m.a fuel")
	wantRun(t, []impl.Unit{unitOf("m", letDef("a", sum))}, 2*many+1, "m.a "+strconv.Itoa(many))
	list := impl.Run([]impl.Unit{unitOf("m", letDef("a", wide), letDef("b", exField(exName("a"), "a1")))}, muchFuel)
	if len(list) != 2 || list[1].Val.N != many-1 || !slices.IsSorted(list[0].Val.Names) || len(list[0].Val.Kids) != many {
		t.Error("a wide record")
	}
	// a value as deep, alike to itself, told, shown and held against a type that leads back to itself
	list = impl.Run([]impl.Unit{unitOf("m", letDef("r", exTrue), letDef("a", field), letDef("b", exSame(exName("a"), field)), letDef("c", exSame(exName("a"), exRecord("a", exName("a")))))}, 10*many)
	if len(list) != 4 || list[2].Val.N != 1 || list[3].Val.N != 0 {
		t.Fatal("a deep record", len(list))
	}
	if text := impl.ValText(list[1].Val); text != strings.Repeat("{a = ", many)+"true"+strings.Repeat("}", many) {
		t.Error("the text of a deep record", len(text))
	}
	env := rightEnv(t, "N = {a: N | int}", "T = {a: T} | bool")
	if !impl.ValFits(env, list[1].Val, nameT("T")) || impl.ValFits(env, list[1].Val, nameT("N")) {
		t.Error("the type of a deep record")
	}
	many2 := impl.Module{}
	for i := range many {
		many2.Defs = append(many2.Defs, letDef("a"+strconv.Itoa(i), exInt(i)), letDef("b", exName("a0")))
	}
	if list := impl.Run([]impl.Unit{{Name: "m", Module: many2}}, muchFuel); len(list) != 2*many || list[2*many-1].Val.N != 0 || list[2*many-2].Val.N != many-1 {
		t.Error("many lets", len(list))
	}
}

// What doubles with each expression is told whole, but for a text that no memory holds.
func TestValuesThatDouble(t *testing.T) {
	src := "let a = \"x\"\n" + strings.Repeat("let a=a+a\n", 200)
	list := impl.Run(unitsFrom(t, "m", src), muchFuel)
	last := len(list) - 1
	if last < 30 || list[last].Code != impl.RunFuel {
		t.Fatal("texts", last)
	}
	for i, d := range list[:28] {
		if d.Code != impl.RunOk || len(d.Val.S) != 1<<i {
			t.Fatal("a text", i, d.Code, len(d.Val.S))
		}
	}
	src = "let a = 1\n" + strings.Repeat("let a={x=a,y=a}\n", 150)
	list = impl.Run(unitsFrom(t, "m", src), muchFuel)
	if len(list) != 151 || list[150].Code != impl.RunOk || strings.Count(impl.ValText(list[15].Val), "1") != 1<<15 {
		t.Fatal("records", len(list))
	}
	// the greatest one, too, on any way down
	for way := range 5 {
		v := list[150].Val
		for level := range 150 {
			if v.Kind != impl.VRecord || !slices.Equal(v.Names, []string{"x", "y"}) || len(v.Kids) != 2 {
				t.Fatal("a record", level)
			}
			v = v.Kids[level>>way&1]
		}
		if !sameVal(v, vInt(1)) {
			t.Fatal("at the end of a record", v)
		}
	}
}

// A text of which nothing is told need not be made.
func TestTextsThatAreNotTold(t *testing.T) {
	ahead := "fn d(s: text, n: int): text = if n == 50 then s else d(s + s, n + 1)\nfn e(s: text): text = d(d(d(s, 0), 0), 0)"
	for exp, want := range map[string]string{
		"d(\"x\", 0) == d(\"x\", 0)":                            "true",
		"d(\"x\", 0) == d(\"y\", 0)":                            "false",
		"d(\"xx\", 1) == d(\"x\", 0)":                           "true",
		"d(\"x\", 0) + \"x\" == \"x\" + d(\"x\", 0)":            "true",
		"d(\"x\", 0) + \"y\" == \"y\" + d(\"x\", 0)":            "false",
		"d(\"ab\", 0) + \"a\" == \"a\" + d(\"ba\", 0)":          "true",
		"d(\"ab\", 0) + \"a\" == \"a\" + d(\"bc\", 0)":          "false",
		"d(\"x\", 0) == d(\"x\", 0) + \"x\"":                    "false",
		"e(\"x\") == e(\"x\")":                                  "true",
		"e(\"x\") == e(\"x\") + \"x\"":                          "false",
		"e(\"x\") == e(\"y\")":                                  "false",
		"{a = e(\"x\"), b = 1} == {b = 1, a = e(\"x\") + \"\"}": "true",
		"{a = e(\"x\"), b = 7}.b":                               "7",
		"let q = e(\"x\") in if q == \"\" then 1 else 2":        "2",
		"e(\"\")":                     `""`,
		"e(\"x\")":                    "fuel",
		"{a = {b = e(\"x\")}, b = 1}": "fuel",
	} {
		wantIs(t, ahead, exp, want)
	}
	wantIs(t, "fn d(s: text, n: int): text = if n == 16 then s else d(s + s, n + 1)", "d(\"x\", 0) == d(\"x\", 0)", "true")
	wantIs(t, "fn d(s: text, n: int): text = if n == 16 then s else d(s + s, n + 1)", "d(\"x\", 0) + \"y\" == d(\"x\", 0) + \"z\"", "false")
}

// Texts of bytes 0 alone differ in nothing but their length.
func TestLongTextsOfBytes0(t *testing.T) {
	ahead := "fn d(s: text, n: int): text = if n == 50 then s else d(s + s, n + 1)"
	long := func(s string, from int) impl.Exp { return exCall(exName("d"), exText(s), exInt(from)) }
	wantVal(t, ahead, exSame(long("\x00", 0), long("\x00", 0)), vTrue, impl.RunOk)
	wantVal(t, ahead, exSame(long("\x00", 0), long("\x00\x00", 1)), vTrue, impl.RunOk)
	wantVal(t, ahead, exSame(long("\x00", 0), long("\x00", 1)), vFalse, impl.RunOk)
	wantVal(t, ahead, exSame(long("\x00", 0), exAdd(long("\x00", 0), exText("\x00"))), vFalse, impl.RunOk)
	wantVal(t, ahead, exSame(long("x", 0), exAdd(exText("\x00"), long("x", 0))), vFalse, impl.RunOk)
	wantVal(t, ahead, exSame(long("\x00", 40), long("\x00", 41)), vFalse, impl.RunOk)
	wantVal(t, ahead, exSame(exText("\x00"), exText("\x00\x00")), vFalse, impl.RunOk)
}

// A value holds another one twice that is there once.
func TestRecordsThatAreNotTold(t *testing.T) {
	ahead := "fn d(s: {a: int}, n: int): {a: int} = if n == 55 then s else d({a = s, b = s}, n + 1)\nfn e(s: {a: int}): {a: int} = d(d(d(s, 0), 0), 0)"
	wantIs(t, ahead, "e(1) == e(1)", "true")
	wantIs(t, ahead, "e(1) == e(2)", "false")
	wantIs(t, ahead, "e(1) == 1", "false")
	wantIs(t, ahead, "e(e(1)).a.b.a.b == e({a = 1}).b.b.b.b", "false")
	wantIs(t, ahead, "{a = e(1)}.a.b.b.b == e(1).b.b.b", "true")
	list := impl.Run(unitsFrom(t, "m", ahead+"\nlet a = {a = 1, b = e(1).a}"), muchFuel)
	if last := list[len(list)-1]; last.Code != impl.RunOk || !sameVal(last.Val.Kids[0], vInt(1)) || len(last.Val.Kids[1].Kids) != 2 {
		t.Error("a record that is greater than any memory")
	}
}

// Texts that are made of many short ones, and told in many places.
func TestTextsOfManyParts(t *testing.T) {
	src := "fn up(s: text, n: int): text = if n == 50 then s else up(s + \"abc\" + s + \"d\", n + 1)\n"
	want := "x"
	var sums []string
	for i := range 14 {
		src += "let a" + strconv.Itoa(i) + " = up(\"x\", " + strconv.Itoa(50-i) + ")\n"
		sums = append(sums, want)
		want += "abc" + want + "d"
	}
	list := impl.Run(unitsFrom(t, "m", src+"let b = {p = a13, q = {r = a13, s = a12 + a0 + a13}}\nlet c = b.q.s == a12 + \"x\" + b.p\nlet d = a13 + \"q\" == \"q\" + a13"), muchFuel)
	if len(list) != 18 {
		t.Fatal(len(list))
	}
	for i, s := range sums {
		if list[i+1].Val.S != s {
			t.Error("a text of", len(s), "bytes has", len(list[i+1].Val.S))
		}
	}
	if v := list[15].Val; v.Kids[0].S != sums[13] || v.Kids[1].Kids[0].S != sums[13] || v.Kids[1].Kids[1].S != sums[12]+"x"+sums[13] {
		t.Error("texts within records")
	}
	if list[16].Val.N != 1 || list[17].Val.N != 0 {
		t.Error("texts that are alike")
	}
}

// There is no bound of expressions but fuel.
func TestLongRuns(t *testing.T) {
	units := unitsFrom(t, "m", "fn c(n: int): int = if n == 17 then 1 else c(n + 1) + c(n + 1)\nlet a = c(0)\nlet b = a")
	// 15 for each call that calls two others, 5 for one that does not, and 3 for the first one
	needed := 15*(1<<17-1) + 5*(1<<17) + 3
	wantRun(t, units, needed+1, "m.c fn m.c", "m.a 131072", "m.b 131072")
	wantRun(t, units, needed, "m.c fn m.c", "m.a 131072", "m.b fuel")
	wantRun(t, units, needed-1, "m.c fn m.c", "m.a fuel")
	wantRun(t, units, math.MaxInt, "m.c fn m.c", "m.a 131072", "m.b 131072")
}

// valWithinItself has itself for each kid.
func valWithinItself(kids int) impl.Val {
	v := impl.Val{Kind: impl.VRecord, Kids: make([]impl.Val, kids)}
	for i := range v.Kids {
		v.Names = append(v.Names, "a"+strconv.Itoa(i))
	}
	for i := range v.Kids {
		v.Kids[i] = v
	}
	return v
}

func TestAnyValueIsAnswered(t *testing.T) {
	env := rightEnv(t, "A = {a0: A}", "B = {a0: B | int} | bool", "C = {a0: {a0: C, a1: int}}", "D = {a0: {}, a1: {a0: any}}", "E = {a0: E, a1: F} | {a0: F}", "F = {a1: E | F}")
	for _, kids := range []int{1, 2, 300} {
		v := valWithinItself(kids)
		// it has no end, and so no text
		if text := impl.ValText(v); text != "" {
			t.Error("the text of a value within itself has", len(text))
		}
		// what leads back to itself is of a type as it fits there
		for name, want := range map[string]bool{"A": true, "B": true, "C": false, "D": kids > 1, "E": kids > 1, "F": kids > 1} {
			if impl.ValFits(env, v, nameT(name)) != want {
				t.Error("a value within itself, of", kids, "kids, to", name)
			}
		}
		if impl.ValFits(nil, v, intT) || !impl.ValFits(nil, v, anyT) {
			t.Error("a value within itself")
		}
	}
	odd := impl.Val{Kind: impl.VRecord, Names: slices.Repeat([]string{"a"}, 1000), Kids: make([]impl.Val, 1)}
	odd.Kids[0] = odd
	impl.ValText(odd)
	impl.ValFits(env, odd, nameT("A"))
	// claims of which one falls only when another one did that was looked at behind it
	odd = vRecord("a b z", impl.Val{}, impl.Val{}, vInt(1))
	odd.Kids[0] = impl.Val{Kind: impl.VRecord, Names: []string{"d"}, Kids: odd.Kids[1:2]}
	odd.Kids[1] = impl.Val{Kind: impl.VRecord, Names: []string{"c", "e", "f"}, Kids: odd.Kids}
	tied := rightEnv(t, "X = {d: Y}", "Y = {c: X, f: text}")
	if impl.ValFits(tied, odd, typeFrom(t, "{a: X} | {b: Y}")) || !impl.ValFits(tied, odd, typeFrom(t, "{b: {f: int}}")) || !impl.ValFits(rightEnv(t, "X = {d: Z}", "Z = {c: X, f: int}"), odd, typeFrom(t, "{a: X, b: Z}")) {
		t.Error("what falls late")
	}
	// one list very many times
	shared := vInt(1)
	for range 200 {
		shared = vRecord("a b", shared, shared)
	}
	impl.ValText(shared)
	types := rightEnv(t, "T = {a: T, b: T} | int", "U = {a: U, b: U} | text", "V = {a: V, b: W} | text", "W = {a: V} | {a: W, b: V} | bool")
	if !impl.ValFits(types, shared, nameT("T")) || impl.ValFits(types, shared, nameT("U")) || impl.ValFits(types, shared, nameT("V")) {
		t.Error("one list very many times")
	}
	// kids of a union that part only deep within
	v := vRecord("n x", vTrue, vInt(1))
	for range 3000 {
		v = vRecord("n x", v, vText(""))
	}
	parted := rightEnv(t, "T = {n: T, x: int} | {n: T, x: text} | bool")
	if !impl.ValFits(parted, v, nameT("T")) || impl.ValFits(parted, v, recordT("n x", nameT("T"), intT)) {
		t.Error("a union that parts late")
	}
}

func TestGreatValuesAreShownWhole(t *testing.T) {
	const many = 300000
	wide, deep := vRecord(""), vText("x")
	var fields []string
	for i := range many {
		name := "a" + strconv.Itoa(1000000+i)
		wide.Names = append(wide.Names, name)
		wide.Kids = append(wide.Kids, vInt(7))
		fields = append(fields, name+" = 7")
		deep = vRecord("a b", deep, vTrue)
	}
	if got := impl.ValText(wide); got != "{"+strings.Join(fields, ", ")+"}" {
		t.Error("a wide one", len(got))
	}
	if got := impl.ValText(deep); got != strings.Repeat("{a = ", many)+"\"x\""+strings.Repeat(", b = true}", many) {
		t.Error("a deep one", len(got))
	}
	doubled := vRecord("a b", vInt(-1), vFn("m", "f", 1))
	for range 14 {
		doubled = vRecord("c d e", doubled, vText("\""), doubled)
	}
	if got := impl.ValText(doubled); got != valTextByWords(doubled) {
		t.Error("one list many times", len(got))
	}
	// what is not shown need not have an end
	hidden := vInt(5)
	hidden.Kids = valWithinItself(2).Kids
	more := vRecord("a", vInt(1))
	more.Kids = append(more.Kids, valWithinItself(1))
	if impl.ValText(hidden) != "5" || impl.ValText(more) != "{a = 1}" || impl.ValText(vRecord("a", valWithinItself(1))) != "" {
		t.Error("with what has no end")
	}
}

// Each value has lists of its own, however often it is told.
func TestGreatAnswersShareNothing(t *testing.T) {
	src := "let a = 1\n" + strings.Repeat("let a={x=a,y=a}\n", 14)
	list := impl.Run(unitsFrom(t, "m", src), muchFuel)
	answer := newMemory()
	answer.addDone(list)
	wantNewMemory(t, "Run", answer, newMemory())
	// of each record two places of names and two of kids
	want := 0
	for i, d := range list {
		want += 4 * (1<<i - 1)
		if d.Code != impl.RunOk {
			t.Error("of", i)
		}
	}
	if len(answer.places) < want {
		t.Error("the answer has", len(answer.places), "places, and not", want)
	}
}

func TestAnyUnitIsAnswered(t *testing.T) {
	exps := []impl.Exp{{}, {Kind: -1}, exName("x"), exName("f"), exMod("m", "x"), exMod("m", "f"), exCall(exName("f"), exName("f")), exCall(exMod("m", "f"), exName("x")), exCall(), exField(exName("x"), "a"),
		exIf(exName("x"), exName("f"), exInt(1)), expWithinItself(impl.ExIn, 2), expWithinItself(impl.ExRecord, 3), exRecord("a a", exInt(1)), exIn("f", exName("f"), exCall(exName("f"), exName("f")))}
	for _, fuel := range []int{math.MinInt, -1, 0, 1, 2, 3, 7, 100, 5000} {
		for _, a := range exps {
			for _, b := range exps {
				units := []impl.Unit{
					unitOf("m", letDef("x", exInt(1)), fnDef("f", "x", nil, intT, a), impl.Def{Kind: 9, Name: "y", Exp: b}),
					{},
					unitOf("m", fnDef("f", "x", nil, intT, b), fnDef("f", "", nil, intT, a), letDef("x", b), letDef("z", a)),
					unitOf("", letDef("", a), impl.Def{}),
				}
				list := impl.Run(units, fuel)
				for i, d := range list {
					if d.Code != impl.RunOk && i != len(list)-1 {
						t.Fatalf("%s is not the last one: %s", d.Name, doneText(list))
					}
				}
			}
		}
	}
}

func FuzzRun(f *testing.F) {
	f.Add(eachKindSource, someBytes(1, 300), 100)
	f.Add("let a = 1 fn f(n: int): int = if n == 3 then a else f(n + 1) let b = f(0) let c = {x = f, y = b}.x(b)", someBytes(2, 600), 50)
	f.Fuzz(func(t *testing.T, src string, bytes []byte, fuel int) {
		bytes, fuel = bytes[:min(len(bytes), 2000)], fuel%2000
		hand := &handMaker{typeMaker{bytes: bytes}}
		units := handUnits(hand)
		runAsByWords(t, units, fuel)
		if m, line := impl.ParseModule(src); line == 0 {
			runAsByWords(t, append(units, impl.Unit{Name: "m", Module: m}), fuel)
			runAsByWords(t, append([]impl.Unit{{Name: "m", Module: m}}, units...), fuel)
		}
		set := makeSet(bytes, 0)
		runAsByWords(t, set.units, fuel)
		if set.right && !slices.ContainsFunc(set.summaries, tellsAny) {
			wantPromiseOfRun(t, set, fuel)
		}
		v := someRoughVal(&hand.typeMaker, 3)
		env, x := hand.env(true), hand.someType()
		if impl.ValFits(env, v, x) != valFitsByWords(env, v, x) || impl.ValText(v) != valTextByWords(v) {
			t.Fatalf("%+v of %v in %v", v, x, env)
		}
	})
}
