package tests

import (
	"go/ast"
	"go/parser"
	"go/token"
	"math"
	"path/filepath"
	"reflect"
	"slices"
	"strings"
	"testing"
	"unsafe"

	"loop.example/g00276/impl"
)

// Promise 14: every function answers at any arguments, and writes into none; with what 'Conventions for all chapters'
// says of memory. The chapters' own tests ask for each edge; here all functions are asked alike.
var everyFunction = map[string]any{
	"PutNum": impl.PutNum, "GetNum": impl.GetNum, "PutText": impl.PutText, "GetText": impl.GetText, "PutTexts": impl.PutTexts, "GetTexts": impl.GetTexts,
	"Digest": impl.Digest, "Key": impl.Key, "DecText": impl.DecText, "IsWord": impl.IsWord, "NameOk": impl.NameOk, "Lex": impl.Lex,
	"TypeOk": impl.TypeOk, "TypeText": impl.TypeText, "Union": impl.Union, "Record": impl.Record, "Rename": impl.Rename, "TypeNames": impl.TypeNames, "HasAny": impl.HasAny,
	"ParseModule": impl.ParseModule, "ShowModule": impl.ShowModule, "SameModule": impl.SameModule,
	"EnvOk": impl.EnvOk, "Lookup": impl.Lookup, "Loops": impl.Loops, "Open": impl.Open, "Fits": impl.Fits, "Both": impl.Both, "FieldOf": impl.FieldOf, "Reach": impl.Reach,
	"Scope": impl.Scope, "Infer": impl.Infer, "CheckModule": impl.CheckModule, "Run": impl.Run, "ValFits": impl.ValFits, "ValText": impl.ValText,
	"PutType": impl.PutType, "GetType": impl.GetType, "SummaryOk": impl.SummaryOk, "PutSummary": impl.PutSummary, "GetSummary": impl.GetSummary,
	"SummaryText": impl.SummaryText, "SummaryKey": impl.SummaryKey, "Narrow": impl.Narrow,
	"SetOk": impl.SetOk, "ImportsOf": impl.ImportsOf, "Missing": impl.Missing, "Circles": impl.Circles, "Rank": impl.Rank, "Order": impl.Order, "Levels": impl.Levels, "Above": impl.Above,
	"CheckOne": impl.CheckOne, "CheckAll": impl.CheckAll, "ResultText": impl.ResultText, "Report": impl.Report, "PutResult": impl.PutResult, "GetResult": impl.GetResult, "Unit0": impl.Unit0,
	"StoreOk": impl.StoreOk, "StorePut": impl.StorePut, "StoreGet": impl.StoreGet, "StoreDrop": impl.StoreDrop, "TaskOf": impl.TaskOf, "DoTask": impl.DoTask,
	"FarmStart": impl.FarmStart, "FarmDo": impl.FarmDo, "FarmRun": impl.FarmRun, "FarmReport": impl.FarmReport, "FarmCalm": impl.FarmCalm,
	"ReadType": impl.ReadType, "Desk": impl.Desk,
}

func TestEveryFunctionIsAsked(t *testing.T) {
	files, err := filepath.Glob("../impl/*.go")
	if err != nil || len(files) == 0 {
		t.Fatal(files, err)
	}
	found := 0
	for _, name := range files {
		file, err := parser.ParseFile(token.NewFileSet(), name, nil, parser.SkipObjectResolution)
		if err != nil {
			t.Fatal(err)
		}
		for _, d := range file.Decls {
			if f, ok := d.(*ast.FuncDecl); ok && f.Recv == nil && f.Name.IsExported() {
				found++
				if everyFunction[f.Name.Name] == nil {
					t.Error("not asked:", f.Name.Name)
				}
			}
		}
	}
	if found != len(everyFunction) {
		t.Error(found, "functions, asked are", len(everyFunction))
	}
}

// A sample is a set with what the chapters make of it: the texts of one sort each stand in one list.
type sample struct {
	set   []impl.Source
	all   []impl.Result
	texts [][]string
}

func sampleOf(set []impl.Source) sample {
	of := sample{set: set, all: impl.CheckAll(set)}
	names, tasks := []string{"v1", "m"}, []string(nil)
	var sources, results, packets, summaries, types []string
	for i, s := range set {
		task := impl.TaskOf(set, of.all, s.Name)
		names, sources, tasks = append(names, s.Name, s.Name), append(sources, s.Text), append(tasks, task)
		results = append(results, impl.DoTask(task))
		summaries = append(summaries, impl.PutSummary(of.all[i].Summary))
		packets = append(packets, impl.PutTexts([]string{s.Name, task}))
		for _, n := range of.all[i].Summary.Exports {
			types = append(types, impl.PutType(n.Type), impl.TypeText(n.Type), n.Name)
		}
	}
	odd := []string{"", "a\x00", "\x02\x01a\x00", "m.T", "let", "zz", strings.Repeat("x", 5000), "int | {a: m.T}", "\xff"}
	scripts := []string{script(behind(set, "report", "run a", "farm 3", "tick", "deliver 0", "calm", "done", "what")...)}
	of.texts = [][]string{names, names, names, sources, tasks, results, packets, summaries, append(types, "int"), odd, scripts}
	return of
}

// An argumentMaker makes arguments of any type: such as the chapters want, nearly such, and others.
type argumentMaker struct {
	handMaker
	sample
}

var anyNumbers = []int{0, 1, 2, 3, 4, 5, 6, 7, 9, 30, 31, 50, 100, 101, 200, 127, 128, 999999999, 1000000000, -1, -2, math.MaxInt, math.MinInt}

func (m *argumentMaker) text() string {
	list := m.texts[m.next(len(m.texts))]
	text := list[m.next(250)%len(list)]
	if m.next(9) == 8 && text != "" {
		return text[:m.next(250)%len(text)]
	}
	return text
}

// plausible makes an argument as a chapter wants it, or nearly so.
func (m *argumentMaker) plausible(of reflect.Type) any {
	switch of {
	case reflect.TypeFor[string]():
		return m.text()
	case reflect.TypeFor[impl.Type]():
		return m.someType()
	case reflect.TypeFor[[]impl.Named]():
		return m.env(m.next(2) == 0)
	case reflect.TypeFor[impl.Exp]():
		return m.exp(3)
	case reflect.TypeFor[impl.Module]():
		parsed, _ := impl.ParseModule(m.text())
		return []impl.Module{parsed, m.module()}[m.next(2)]
	case reflect.TypeFor[[]impl.Summary]():
		return m.summaries()
	case reflect.TypeFor[[]impl.Unit]():
		return [][]impl.Unit{impl.Unit0(m.set), handUnits(&m.handMaker)}[m.next(2)]
	case reflect.TypeFor[impl.Val]():
		return someRoughVal(&m.typeMaker, 3)
	case reflect.TypeFor[[]impl.Source]():
		return m.set
	case reflect.TypeFor[[]impl.Result]():
		return m.all[:len(m.all)-m.next(2)]
	case reflect.TypeFor[impl.Summary]():
		return m.all[m.next(250)%len(m.all)].Summary
	case reflect.TypeFor[impl.Result]():
		return m.all[m.next(250)%len(m.all)]
	case reflect.TypeFor[impl.Store]():
		return impl.FarmCalm(m.farm()).Store
	case reflect.TypeFor[impl.Farm]():
		return m.farm()
	}
	return nil
}

func (m *argumentMaker) farm() impl.Farm {
	f, _ := impl.FarmStart(m.set, 1+m.next(4), 1+m.next(4), impl.Store{Room: 1 + m.next(9)})
	for range m.next(12) {
		f = impl.FarmDo(f, impl.Event{Kind: m.next(7), At: m.next(3)})
	}
	if m.next(3) == 0 {
		f = amissFarm(&m.typeMaker, f)
	}
	return f
}

func (m *argumentMaker) value(of reflect.Type, room int) reflect.Value {
	out := reflect.New(of).Elem()
	if m.next(5) > 0 {
		if made := m.plausible(of); made != nil {
			return reflect.ValueOf(made)
		}
	}
	switch of.Kind() {
	case reflect.Int:
		out.SetInt(int64(anyNumbers[m.next(len(anyNumbers))]))
	case reflect.Bool:
		out.SetBool(m.next(2) == 0)
	case reflect.String:
		out.SetString(m.text())
	case reflect.Slice:
		for range min(m.next(5), 2*room) {
			out = reflect.Append(out, m.value(of.Elem(), room-1))
		}
	case reflect.Struct:
		for i := range of.NumField() {
			out.Field(i).Set(m.value(of.Field(i).Type, room-1))
		}
	}
	return out
}

// roomyCopy has memory of its own, with room behind each list in which something stands.
func roomyCopy(v reflect.Value) reflect.Value {
	out := reflect.New(v.Type()).Elem()
	switch v.Kind() {
	case reflect.String:
		out.SetString(strings.Clone(v.String()))
	case reflect.Slice:
		if v.Len() == 0 {
			return out
		}
		out.Set(reflect.MakeSlice(v.Type(), v.Len()+2, v.Len()+2))
		for i := range out.Len() {
			out.Index(i).Set(roomyCopy(v.Index(i % v.Len())))
		}
		return out.Slice(0, v.Len())
	case reflect.Struct:
		for i := range v.NumField() {
			out.Field(i).Set(roomyCopy(v.Field(i)))
		}
	default:
		out.Set(v)
	}
	return out
}

// A span is the memory of a list, with the room behind it, or of a text.
type span struct {
	from, behind uintptr
}

type spans struct {
	lists, texts []span
}

func (s *spans) add(v reflect.Value) {
	switch v.Kind() {
	case reflect.String:
		if text := v.String(); text != "" {
			from := uintptr(unsafe.Pointer(unsafe.StringData(text)))
			s.texts = append(s.texts, span{from, from + uintptr(len(text))})
		}
	case reflect.Slice:
		if v.Cap() > 0 {
			from := v.Pointer()
			s.lists = append(s.lists, span{from, from + uintptr(v.Cap())*v.Type().Elem().Size()})
		}
		for i := range v.Len() {
			s.add(v.Index(i))
		}
	case reflect.Struct:
		for i := range v.NumField() {
			s.add(v.Field(i))
		}
	}
}

func spansOf(list []reflect.Value) spans {
	var s spans
	for _, v := range list {
		s.add(v)
	}
	return s
}

// meet tells whether two of these spans have a byte in common; those of one side may, where it is not asked for.
func meet(a, b []span) bool {
	for _, x := range a {
		for _, y := range b {
			if x.from < y.behind && y.from < x.behind {
				return true
			}
		}
	}
	return false
}

func meetWithin(list []span) bool {
	for i := range list {
		if meet(list[i:i+1], list[i+1:]) {
			return true
		}
	}
	return false
}

func callOf(t *testing.T, name string, args []reflect.Value) []reflect.Value {
	t.Helper()
	defer func() {
		if cause := recover(); cause != nil {
			t.Fatalf("%s panics: %v", name, cause)
		}
	}()
	return reflect.ValueOf(everyFunction[name]).Call(args)
}

func interfacesOf(list []reflect.Value) []any {
	out := make([]any, len(list))
	for i, v := range list {
		out[i] = v.Interface()
	}
	return out
}

func wantAnswered(t *testing.T, name string, args []reflect.Value) (told bool) {
	t.Helper()
	whole := func() any { return wholeModule(reflect.ValueOf(interfacesOf(args))).Interface() }
	before, given := whole(), spansOf(args)
	answers := callOf(t, name, args)
	if !reflect.DeepEqual(whole(), before) {
		t.Fatalf("%s writes into an argument: %.2000v", name, interfacesOf(args))
	}
	of := spansOf(answers)
	if meet(of.lists, given.lists) || meet(of.texts, given.texts) {
		t.Fatalf("%s: the answer shares memory with an argument: %.2000v", name, interfacesOf(args))
	}
	if meetWithin(of.lists) {
		t.Fatalf("%s: two lists of the answer share memory: %.2000v", name, interfacesOf(args))
	}
	again := callOf(t, name, args)
	if !reflect.DeepEqual(interfacesOf(again), interfacesOf(answers)) {
		t.Fatalf("%s answers otherwise the second time: %.2000v", name, interfacesOf(args))
	}
	if meet(spansOf(again).lists, of.lists) {
		t.Fatalf("%s: two answers share memory: %.2000v", name, interfacesOf(args))
	}
	return slices.ContainsFunc(answers, func(v reflect.Value) bool { return !v.IsZero() })
}

func TestEveryFunctionAnswersAtAnyArguments(t *testing.T) {
	var samples []sample
	madeReports(40, func(_ *reportMaker, list []impl.Source) { samples = append(samples, sampleOf(list)) })
	const asks = 200
	for name, f := range everyFunction {
		kind := reflect.TypeOf(f)
		told := 0
		for seed := range uint64(asks) {
			m := &argumentMaker{handMaker{typeMaker{bytes: someBytes(seed+8888888, 3000)}}, samples[seed%uint64(len(samples))]}
			var args []reflect.Value
			for i := range kind.NumIn() {
				args = append(args, roomyCopy(m.value(kind.In(i), 3)))
			}
			if wantAnswered(t, name, args) {
				told++
			}
		}
		// what the chapters want is among them
		if told < 3 {
			t.Errorf("%s tells something %d times of %d", name, told, asks)
		}
	}
}

// Nothing at all is an argument, too: each is the zero value.
func TestEveryFunctionAnswersAtZeroValues(t *testing.T) {
	for name, f := range everyFunction {
		kind := reflect.TypeOf(f)
		var args []reflect.Value
		for i := range kind.NumIn() {
			args = append(args, reflect.New(kind.In(i)).Elem())
		}
		wantAnswered(t, name, args)
	}
}

// One long text stands in so many places that no memory holds what would be told of them one by one.
func TestOneTextInVeryManyPlaces(t *testing.T) {
	const many = 10000
	names := slices.Repeat([]string{strings.Repeat("x", 1000000)}, many)
	wide := impl.Type{Kind: impl.TyFn}
	var env []impl.Named
	for _, name := range names {
		wide.Kids = append(wide.Kids, nameT(name))
		env = append(env, impl.Named{Name: name, Type: intT})
	}
	before := heapSize()
	for what, got := range map[string][]string{"TypeNames": impl.TypeNames(wide), "Reach": impl.Reach(nil, wide), "Reach in what is no environment": impl.Reach(env, wide)} {
		if len(got) != 1 || got[0] != names[0] {
			t.Error(what, len(got))
		}
	}
	for what, got := range map[string]string{
		"SummaryText of exports": impl.SummaryText(impl.Summary{Exports: env}), "SummaryText of types": impl.SummaryText(impl.Summary{Types: env}),
		"ValText of a function": impl.ValText(impl.Val{Kind: impl.VFn, Names: names}), "ValText of a record": impl.ValText(impl.Val{Kind: impl.VRecord, Names: names}),
		"ResultText": impl.ResultText(impl.Result{Diags: slices.Repeat([]impl.Diag{{Code: names[0]}}, many)}), "PutTexts": impl.PutTexts(names), "TypeText": impl.TypeText(wide), "PutType": impl.PutType(wide),
	} {
		if got != "" {
			t.Error(what, len(got))
		}
	}
	m := moduleOf("", letDef("a", impl.Exp{Kind: impl.ExMod, Text: "m", Names: names}), typeDef("T", wide), letDef("b", exInt(1)))
	if got := impl.ShowModule(m); got != "let a = \ntype T = \nlet b = 1\n" {
		t.Errorf("ShowModule: %.100q", got)
	}
	scope, wrong := impl.Scope("m", impl.Module{Defs: []impl.Def{typeDef("T", wide), typeDef("U", fnT(wide))}}, []impl.Summary{{Name: "m", Types: env}})
	if len(scope) > 2 || len(wrong) == 0 {
		t.Error("Scope", len(scope), len(wrong))
	}
	if after := heapSize(); after > before+1<<30 {
		t.Errorf("%d bytes taken", after-before)
	}
}
