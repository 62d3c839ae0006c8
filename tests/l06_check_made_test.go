package tests

import (
	"reflect"
	"slices"
	"strconv"
	"strings"
	"testing"

	"loop.example/g00276/impl"
)

// From here on the document's chapter is told once more, sentence by sentence.

func summaryByWords(list []impl.Summary, name string) (impl.Summary, bool) {
	for _, s := range list {
		if s.Name == name {
			return s, true
		}
	}
	return impl.Summary{}, false
}

// isOfDarkByWords: of one of the Imports whose summary is Bad or is not there.
func isOfDarkByWords(m impl.Module, imports []impl.Summary, name string) bool {
	mod, _, dotted := strings.Cut(name, ".")
	s, ok := summaryByWords(imports, mod)
	return dotted && slices.Contains(m.Imports, mod) && (!ok || s.Bad)
}

func wholeRenameByWords(t impl.Type, mod string) impl.Type {
	if !okByWords(t, 0) || !impl.NameOk(mod) {
		return t
	}
	return renamedByWords(t, mod)
}

func scopeByWords(mod string, m impl.Module, imports []impl.Summary) ([]impl.Named, []impl.Diag) {
	many := []impl.Diag{{Line: 1, Code: "many"}}
	if !impl.NameOk(mod) {
		return nil, many
	}
	var env []impl.Named
	for _, name := range m.Imports {
		s, _ := summaryByWords(imports, name)
		for _, n := range s.Types {
			if _, ok := lookupByWords(env, n.Name); !ok {
				env = append(env, n)
			}
		}
	}
	var wrong []impl.Diag
	var uncounted []int
	for i, d := range m.Defs {
		if d.Kind != 0 {
			continue
		}
		name := mod + "." + d.Name
		if _, ok := lookupByWords(env, name); ok {
			wrong = append(wrong, impl.Diag{Line: d.Line, Code: "dup"})
			uncounted = append(uncounted, i)
		} else {
			env = append(env, impl.Named{Name: name, Type: wholeRenameByWords(d.Type, mod)})
		}
	}
	if len(env) > 60 {
		return nil, many
	}
	slices.SortFunc(env, func(a, b impl.Named) int { return strings.Compare(a.Name, b.Name) })
	for i, d := range m.Defs {
		types := slices.Clone(d.Types)
		if d.Typed || d.Kind == 0 {
			types = append(types, d.Type)
		}
		told := false
		for _, x := range types {
			for _, name := range namesByWords(wholeRenameByWords(x, mod)) {
				_, ok := lookupByWords(env, name)
				if !ok && (strings.HasPrefix(name, mod+".") || !isOfDarkByWords(m, imports, name)) {
					wrong = append(wrong, impl.Diag{Line: d.Line, Code: "type"})
					told = true
				}
			}
		}
		name := mod + "." + d.Name
		if d.Kind == 0 && !told && !slices.Contains(uncounted, i) && loopsByWords(env, name) &&
			!slices.ContainsFunc(reachByWords(env, nameT(name)), func(s string) bool { return isOfDarkByWords(m, imports, s) }) {
			wrong = append(wrong, impl.Diag{Line: d.Line, Code: "loop"})
		}
	}
	return env, wrong
}

func fitsOneByWords(env []impl.Named, a, b impl.Type) bool {
	return envByWords(env) && okByWords(a, 0) && okByWords(b, 0) && fitsByWords(env, listT(a, b))[pairTexts(a, b)]
}

func recordByWords(names []string, kids []impl.Type) impl.Type {
	if len(names) != len(kids) {
		return anyT
	}
	fields := map[string]impl.Type{}
	for i, name := range names {
		fields[name] = kids[i]
	}
	x := impl.Type{Kind: impl.TyRecord}
	for _, name := range slices.Sorted(slices.Values(names)) {
		x.Names = append(x.Names, name)
		x.Kids = append(x.Kids, fields[name])
	}
	if !okByWords(x, 0) {
		return anyT
	}
	return x
}

type wordsInfer struct {
	env     []impl.Named
	imports []impl.Summary
	wrong   []impl.Diag
}

func (w *wordsInfer) fault(line int, code string) impl.Type {
	w.wrong = append(w.wrong, impl.Diag{Line: line, Code: code})
	return anyT
}

func (w *wordsInfer) infer(scope []impl.Named, e impl.Exp) impl.Type {
	few := map[int]int{impl.ExField: 1, impl.ExCall: 1, impl.ExIf: 3, impl.ExAdd: 2, impl.ExSame: 2, impl.ExIn: 2, impl.ExRecord: len(e.Names)}
	if len(e.Kids) < few[e.Kind] {
		return anyT
	}
	var kids []impl.Type
	for i, kid := range e.Kids {
		inner := scope
		if e.Kind == impl.ExIn && i == 1 {
			inner = append(slices.Clone(scope), impl.Named{Name: e.Text, Type: kids[0]})
		}
		kids = append(kids, w.infer(inner, kid))
	}
	switch e.Kind {
	case impl.ExInt:
		return intT
	case impl.ExText:
		return textT
	case impl.ExTrue, impl.ExFalse, impl.ExSame:
		return boolT
	case impl.ExName:
		for i := len(scope) - 1; i >= 0; i-- {
			if scope[i].Name == e.Text {
				return scope[i].Type
			}
		}
		return w.fault(e.Line, "name")
	case impl.ExMod:
		s, ok := summaryByWords(w.imports, e.Text)
		if !ok || s.Bad {
			return anyT
		}
		if len(e.Names) > 0 {
			if x, ok := lookupByWords(s.Exports, e.Names[0]); ok {
				return x
			}
		}
		return w.fault(e.Line, "name")
	case impl.ExField:
		if x, ok := fieldByWords(w.env, kids[0], e.Text); ok {
			return x
		}
		return w.fault(e.Line, "field")
	case impl.ExRecord:
		return recordByWords(e.Names, kids)
	case impl.ExIf:
		if !fitsOneByWords(w.env, kids[0], boolT) {
			w.fault(e.Line, "if")
		}
		if x, ok := unionByWords(kids[1:3]); ok {
			return x
		}
	case impl.ExIn:
		return kids[1]
	case impl.ExAdd:
		return w.sum(e, kids)
	case impl.ExCall:
		return w.call(e, kids)
	}
	return anyT
}

func (w *wordsInfer) sum(e impl.Exp, kids []impl.Type) impl.Type {
	kinds := []int{openByWords(w.env, kids[0]).Kind, openByWords(w.env, kids[1]).Kind}
	slices.Sort(kinds)
	switch [2]int(kinds) {
	case [2]int{0, 0}:
		return intT
	case [2]int{1, 1}:
		return textT
	case [2]int{0, 3}, [2]int{1, 3}, [2]int{3, 3}:
		return anyT
	}
	return w.fault(e.Line, "plus")
}

func (w *wordsInfer) call(e impl.Exp, kids []impl.Type) impl.Type {
	of := openByWords(w.env, kids[0])
	if of.Kind == impl.TyAny {
		return anyT
	}
	if of.Kind != impl.TyFn || len(of.Kids) == 0 {
		return w.fault(e.Line, "call")
	}
	last := len(of.Kids) - 1
	if len(kids)-1 != last {
		w.fault(e.Line, "args")
		return of.Kids[last]
	}
	for i := range last {
		if !fitsOneByWords(w.env, kids[i+1], of.Kids[i]) {
			w.fault(e.Kids[i+1].Line, "fit")
		}
	}
	return of.Kids[last]
}

func inferByWords(env []impl.Named, imports []impl.Summary, scope []impl.Named, e impl.Exp) (impl.Type, []impl.Diag) {
	w := &wordsInfer{env: env, imports: imports}
	x := w.infer(scope, e)
	return x, w.wrong
}

func closedByWords(env []impl.Named, t impl.Type) impl.Type {
	if _, ok := lookupByWords(env, t.Name); t.Kind == impl.TyName && !ok {
		return anyT
	}
	var kids []impl.Type
	for _, kid := range t.Kids {
		kids = append(kids, closedByWords(env, kid))
	}
	t.Kids = kids
	if t.Kind == impl.TyUnion {
		u, ok := unionByWords(kids)
		if !ok {
			return anyT
		}
		return u
	}
	return t
}

func closedEnvByWords(env, list []impl.Named) []impl.Named {
	var out []impl.Named
	for _, n := range list {
		out = append(out, impl.Named{Name: n.Name, Type: closedByWords(env, n.Type)})
	}
	return out
}

func checkByWords(mod string, m impl.Module, imports []impl.Summary) ([]impl.Diag, impl.Summary) {
	bad := impl.Summary{Name: mod, Bad: true}
	env, wrong := scopeByWords(mod, m, imports)
	if slices.Contains(wrong, impl.Diag{Line: 1, Code: "many"}) {
		return wrong, bad
	}
	var scope []impl.Named
	for _, d := range m.Defs {
		if d.Kind == impl.DefType {
			continue
		}
		if _, ok := lookupByWords(scope, d.Name); ok {
			wrong = append(wrong, impl.Diag{Line: d.Line, Code: "dup"})
		}
		wanted := wholeRenameByWords(d.Type, mod)
		inner := slices.Clone(scope)
		whole := impl.Type{Kind: impl.TyFn}
		if d.Kind == impl.DefFn {
			var params []impl.Named
			for i, x := range d.Types {
				whole.Kids = append(whole.Kids, wholeRenameByWords(x, mod))
				if i < len(d.Params) {
					params = append(params, impl.Named{Name: d.Params[i], Type: wholeRenameByWords(x, mod)})
				}
			}
			whole.Kids = append(whole.Kids, wanted)
			if !okByWords(whole, 0) {
				whole = anyT
			}
			inner = append(append(inner, impl.Named{Name: d.Name, Type: whole}), params...)
		}
		told, faults := inferByWords(env, imports, inner, d.Exp)
		wrong = append(wrong, faults...)
		if d.Typed && !fitsOneByWords(env, told, wanted) {
			wrong = append(wrong, impl.Diag{Line: d.Line, Code: "fit"})
		}
		switch {
		case d.Kind == impl.DefFn:
			told = whole
		case d.Typed:
			told = wanted
		default:
			told = wholeRenameByWords(told, mod)
		}
		scope = append(scope, impl.Named{Name: d.Name, Type: told})
	}
	if len(wrong) > 0 {
		return wrong, bad
	}
	if len(scope) > 60 {
		return []impl.Diag{{Line: 1, Code: "many"}}, bad
	}
	s := impl.Summary{Name: mod, Exports: closedEnvByWords(env, scope)}
	slices.SortFunc(s.Exports, func(a, b impl.Named) int { return strings.Compare(a.Name, b.Name) })
	closed := closedEnvByWords(env, env)
	for _, n := range closed {
		if slices.ContainsFunc(s.Exports, func(e impl.Named) bool { return slices.Contains(reachByWords(closed, e.Type), n.Name) }) {
			s.Types = append(s.Types, n)
		}
	}
	return nil, s
}

func sameEnv(a, b []impl.Named) bool {
	return slices.EqualFunc(a, b, func(a, b impl.Named) bool { return a.Name == b.Name && sameType(a.Type, b.Type) })
}

func sameSummary(a, b impl.Summary) bool {
	return a.Name == b.Name && a.Bad == b.Bad && sameEnv(a.Types, b.Types) && sameEnv(a.Exports, b.Exports)
}

// checkAsByWords tells whether the module is right.
func checkAsByWords(t *testing.T, mod string, m impl.Module, imports []impl.Summary) bool {
	t.Helper()
	env, faults := impl.Scope(mod, m, imports)
	wantEnv, wantFaults := scopeByWords(mod, m, imports)
	if !sameEnv(env, wantEnv) || !slices.Equal(faults, wantFaults) {
		t.Fatalf("Scope of %q\n%s by %+v\n= %v, %q\nwant %v, %q", mod, impl.ShowModule(m), imports, env, faultsText(faults), wantEnv, faultsText(wantFaults))
	}
	wrong, s := impl.CheckModule(mod, m, imports)
	wantWrong, want := checkByWords(mod, m, imports)
	if !slices.Equal(wrong, wantWrong) || !sameSummary(s, want) {
		t.Fatalf("CheckModule of %q\n%s by %+v\n= %q, %+v\nwant %q, %+v", mod, impl.ShowModule(m), imports, faultsText(wrong), s, faultsText(wantWrong), want)
	}
	return len(wrong) == 0
}

// wantPromiseOfCheck is promise 6; it tells whether the module is right.
func wantPromiseOfCheck(t *testing.T, mod string, m impl.Module, imports []impl.Summary) bool {
	t.Helper()
	wrong, s := impl.CheckModule(mod, m, imports)
	if len(wrong) > 0 {
		wantBadSummary(t, s, mod)
		return false
	}
	var names, told, reached, types []string
	for _, d := range m.Defs {
		if d.Kind != impl.DefType {
			names = append(names, d.Name)
		}
	}
	slices.Sort(names)
	for _, n := range s.Exports {
		told = append(told, n.Name)
		reached = append(reached, impl.Reach(s.Types, n.Type)...)
	}
	for _, n := range s.Types {
		types = append(types, n.Name)
	}
	slices.Sort(reached)
	if s.Bad || s.Name != mod || !slices.Equal(told, names) || !impl.EnvOk(s.Exports) {
		t.Fatalf("the summary of %q\n%s does not tell its lets and fns: %+v", mod, impl.ShowModule(m), s)
	}
	if !impl.EnvOk(s.Types) || !slices.Equal(slices.Compact(reached), types) {
		t.Fatalf("the summary of %q\n%s is not closed: %+v", mod, impl.ShowModule(m), s)
	}
	return true
}

// A checkMaker writes modules whose expressions are of the types that are wanted there, but for one in so many.
type checkMaker struct {
	typeMaker
	amiss int
	libs  []impl.Summary
	mod   string
	env   []impl.Named
	scope []impl.Named
	count int
}

func (m *checkMaker) isAmiss() bool {
	return m.amiss > 0 && m.next(250)*250+m.next(250) < 62500/m.amiss
}

func (m *checkMaker) freshName(head string) string {
	m.count++
	return head + strconv.Itoa(m.count)
}

func (m *checkMaker) typeName() impl.Type {
	return nameT(m.env[m.next(len(m.env))].Name)
}

func (m *checkMaker) someType(room int) impl.Type {
	switch way := m.next(12); {
	case way < 3 || room <= 0:
		return listT(intT, textT, boolT)[m.next(3)]
	case way < 7 && len(m.env) > 0:
		return m.typeName()
	case way < 9:
		return recordT("a b", m.someType(room-1), m.someType(room-1))
	case way == 9:
		u, ok := impl.Union(listT(m.someType(room-1), m.someType(room-1)))
		if !ok {
			return intT
		}
		return u
	case way == 10:
		return listT(fnT(intT), fnT(textT, intT), recordT("a", boolT), recordT(""))[m.next(4)]
	}
	return listT(anyT, nameT("d.T"), nameT("d.U"), intT, textT, boolT)[m.next(6)]
}

func (m *checkMaker) typeText(x impl.Type) string {
	if m.isAmiss() {
		return []string{"nowhere", "int | d.T | m.nope", "q.T", m.mod + ".nope"}[m.next(4)]
	}
	return strings.ReplaceAll(impl.TypeText(x), m.mod+".", []string{"", m.mod + "."}[m.next(2)])
}

// exp ends by what fits wherever it stands.
func (m *checkMaker) exp(want impl.Type, room int) string {
	if m.isAmiss() {
		switch m.next(8) {
		case 0:
			return []string{"nope", "1.a", "1(2)", "m.nope", "d.nope", "(1 + true)", "(if 1 then 2 else 3)", "{a = 1}.b"}[m.next(8)]
		case 1, 2, 3:
			want = m.someType(1)
		}
	}
	if m.next(3) == 0 && room > -3 {
		if found := m.named(want, room-2); found != "" {
			return found
		}
	}
	if room > 0 && m.next(3) == 0 {
		return m.around(want, room-1)
	}
	return m.straight(want, room-1)
}

// named is something in scope, or of a library, that has the type, or is a function that gives it.
func (m *checkMaker) named(want impl.Type, room int) string {
	var found []string
	add := func(name string, of impl.Type) {
		if sameType(of, want) {
			found = append(found, name)
		}
		if of.Kind == impl.TyFn && sameType(of.Kids[len(of.Kids)-1], want) {
			var given []string
			for _, param := range of.Kids[:len(of.Kids)-1] {
				given = append(given, m.straight(param, room))
			}
			if m.isAmiss() {
				given = append(given, "1")
			}
			found = append(found, name+"("+strings.Join(given, ",\n")+")")
		}
	}
	for _, n := range m.scope {
		if m.next(2) == 0 {
			add(n.Name, n.Type)
		}
	}
	for _, lib := range m.libs {
		for _, n := range lib.Exports {
			if m.next(2) == 0 {
				add(lib.Name+"."+n.Name, n.Type)
			}
		}
	}
	if len(found) == 0 {
		return ""
	}
	return found[m.next(len(found))]
}

func (m *checkMaker) around(want impl.Type, room int) string {
	switch m.next(4) {
	case 0:
		return "(if " + m.exp(boolT, room) + "\nthen " + m.exp(want, room) + "\nelse " + m.exp(want, room) + ")"
	case 1:
		of := m.someType(1)
		name := m.freshName("q")
		text := "(let " + name + " = " + m.exp(of, room) + " in\n"
		m.scope = append(m.scope, impl.Named{Name: name, Type: of})
		text += m.exp(want, room) + ")"
		m.scope = m.scope[:len(m.scope)-1]
		return text
	case 2:
		return "{b = " + m.exp(m.someType(1), room) + ", a = " + m.exp(want, room) + "}.a"
	}
	if want.Kind == impl.TyInt || want.Kind == impl.TyText {
		return "(" + m.exp(want, room) + " +\n" + m.exp(want, room) + ")"
	}
	return m.straight(want, room)
}

func (m *checkMaker) straight(want impl.Type, room int) string {
	if room < -4 {
		return "y"
	}
	switch want.Kind {
	case impl.TyInt:
		return strconv.Itoa(m.next(100))
	case impl.TyText:
		return "\"t\""
	case impl.TyBool:
		if room > 0 {
			return "(" + m.exp(m.someType(1), room) + " == " + m.exp(m.someType(1), room) + ")"
		}
		return "true"
	case impl.TyName:
		of, ok := lookupByWords(m.env, want.Name)
		if !ok {
			return m.exp(m.someType(1), room)
		}
		return m.straight(of, room-1)
	case impl.TyRecord:
		var fields []string
		for i, name := range want.Names {
			fields = append(fields, name+" = "+m.exp(want.Kids[i], room-1))
		}
		if m.next(4) == 0 {
			fields = append(fields, "zz = 1")
		}
		return "{" + strings.Join(fields, ",\n") + "}"
	case impl.TyUnion:
		return m.straight(want.Kids[m.next(len(want.Kids))], room-1)
	}
	return "y"
}

// source is of a module that imports the libraries and d, of which nothing is known.
func (m *checkMaker) source() string {
	text := "import d\n"
	m.env = nil
	for _, lib := range m.libs {
		text += "import " + lib.Name + "\n"
		for _, n := range lib.Types {
			if _, ok := lookupByWords(m.env, n.Name); !ok {
				m.env = append(m.env, n)
			}
		}
	}
	text += m.types()
	m.scope = []impl.Named{{Name: "y", Type: anyT}}
	text += "let y: any = 1\n"
	for range 1 + m.next(5) {
		text += m.def()
	}
	return text
}

func (m *checkMaker) types() string {
	var own []impl.Named
	for range m.next(4) {
		name := m.freshName("T")
		own = append(own, impl.Named{Name: m.mod + "." + name})
		m.env = append(m.env, own[len(own)-1])
	}
	text := ""
	for i, n := range own {
		x := recordT("a b", m.someType(1), m.someType(2))
		if m.next(3) == 0 {
			x = listT(intT, unionT(boolT, recordT("a", m.typeName())), fnT(m.typeName(), intT), recordT("n", unionT(boolT, nameT(n.Name))))[m.next(4)]
		}
		m.env[len(m.env)-len(own)+i].Type = x
		text += "type " + strings.TrimPrefix(n.Name, m.mod+".") + " = " + m.typeText(x) + "\n"
		if m.isAmiss() {
			text += "type " + strings.TrimPrefix(n.Name, m.mod+".") + " = int\n"
		}
	}
	return text
}

func (m *checkMaker) def() string {
	name, of := m.freshName("v"), m.someType(2)
	if m.isAmiss() {
		name = m.scope[m.next(len(m.scope))].Name
	}
	text := ""
	switch m.next(4) {
	case 0:
		text = "let " + name + " = " + m.exp(of, 3)
	case 1, 2:
		text = "let " + name + ": " + m.typeText(of) + " = " + m.exp(of, 3)
	case 3:
		before := len(m.scope)
		whole := impl.Type{Kind: impl.TyFn}
		var params []string
		for i := range m.next(3) {
			x := m.someType(1)
			whole.Kids = append(whole.Kids, x)
			params = append(params, "p"+strconv.Itoa(i)+": "+m.typeText(x))
			m.scope = append(m.scope, impl.Named{Name: "p" + strconv.Itoa(i), Type: x})
		}
		whole.Kids = append(whole.Kids, of)
		m.scope = append(m.scope, impl.Named{Name: name, Type: whole})
		text = "fn " + name + "(" + strings.Join(params, ", ") + "): " + m.typeText(of) + " =\n" + m.exp(of, 3)
		m.scope = m.scope[:before]
		of = whole
	}
	m.scope = append(m.scope, impl.Named{Name: name, Type: of})
	return text + "\n"
}

// madeModules hands out modules that are made, each by libraries that are made likewise, some of them Bad or not
// there.
func madeModules(t *testing.T, seeds uint64, amiss int, do func(m impl.Module, imports []impl.Summary, src string)) {
	t.Helper()
	var libs []impl.Summary
	for seed := range seeds {
		maker := &checkMaker{typeMaker: typeMaker{bytes: someBytes(seed+uint64(amiss)*1000003, 3000)}, amiss: amiss, mod: "main"}
		for _, lib := range libs {
			if maker.next(2) == 0 {
				maker.libs = append(maker.libs, lib)
			}
		}
		src := maker.source()
		m, line := impl.ParseModule(src)
		if line != 0 {
			continue
		}
		imports := slices.Clone(maker.libs)
		switch maker.next(6) {
		case 0:
			imports = append(imports, dark("d"))
		case 1:
			imports = append([]impl.Summary{dark("d"), {Name: "e", Exports: numbered(3, textT)}}, imports...)
		case 2:
			if len(imports) > 0 {
				imports[0] = dark(imports[0].Name)
			}
		case 3:
			if len(imports) > 0 {
				imports = imports[1:]
			}
		}
		do(m, imports, src)
		if seed%5 == 0 {
			libs = append(libs[max(0, len(libs)-2):], madeLibrary(maker.bytes, "m"+strconv.Itoa(int(seed/5%4)), libs))
		}
	}
}

// madeLibrary is a summary of a module that is right, and that imports others.
func madeLibrary(bytes []byte, mod string, libs []impl.Summary) impl.Summary {
	for cut := range 100 {
		maker := &checkMaker{typeMaker: typeMaker{bytes: bytes[cut:]}, mod: mod, libs: libs}
		m, line := impl.ParseModule(maker.source())
		wrong, s := impl.CheckModule(mod, m, libs)
		if line == 0 && len(wrong) == 0 {
			return s
		}
	}
	return dark(mod)
}

func TestModulesAsTheDocumentsWordsTell(t *testing.T) {
	right, wrong, codes := 0, 0, map[string]int{}
	for _, amiss := range []int{0, 40, 8} {
		madeModules(t, 2000, amiss, func(m impl.Module, imports []impl.Summary, src string) {
			if checkAsByWords(t, "main", m, imports) {
				right++
			} else {
				wrong++
			}
			faults, _ := impl.CheckModule("main", m, imports)
			for _, d := range faults {
				codes[d.Code]++
			}
		})
	}
	for _, code := range []string{"dup", "type", "name", "field", "if", "plus", "args", "fit", "call"} {
		if codes[code] < 20 {
			t.Error("few modules are wrong so:", code, codes[code])
		}
	}
	if right < 300 || wrong < 300 {
		t.Error("the test's modules are of one sort:", right, wrong)
	}
}

func TestWhatIsToldOfAModuleIsClosed(t *testing.T) {
	right, wrong, told, types := 0, 0, 0, 0
	for _, amiss := range []int{0, 0, 100, 8} {
		madeModules(t, 800, amiss, func(m impl.Module, imports []impl.Summary, src string) {
			for _, by := range [][]impl.Summary{imports, nil, {dark("d"), dark("m0"), dark("m1"), dark("m2")}} {
				if wantPromiseOfCheck(t, "main", m, by) {
					right++
				} else {
					wrong++
				}
			}
			_, s := impl.CheckModule("main", m, imports)
			told, types = told+len(s.Exports), types+len(s.Types)
		})
	}
	if right < 2000 || wrong < 1000 || told < 3000 || types < 500 {
		t.Error("the test's modules are of one sort:", right, wrong, told, types)
	}
	for _, src := range []string{"", "type T = int", "import d let a = d.v", eachKindSource, "import d type T = d.T | U type U = {a: T} fn f(a: U | d.T): {b: T} = {b = a}"} {
		wantPromiseOfCheck(t, "main", mustParse(t, src), nil)
	}
}

// A handMaker makes modules of parts thrown together, right and wrong, with names that stand there often.
type handMaker struct {
	typeMaker
}

var handNames = []string{"a", "b", "f", "m", "n", "T", ""}

func (m *handMaker) name() string {
	return handNames[m.next(len(handNames)-1+m.next(2))]
}

func (m *handMaker) names(most int) []string {
	var list []string
	for range m.next(most + 1) {
		list = append(list, m.name())
	}
	return list
}

func (m *handMaker) someType() impl.Type {
	x := m.make(2)
	if m.next(3) == 0 {
		x = listT(intT, textT, boolT, anyT, nameT("T"), nameT("m.T"), nameT("main.T"), fnT(intT, intT), recordT("a", intT))[m.next(9)]
	}
	return x
}

func (m *handMaker) env(dotted bool) []impl.Named {
	var list []impl.Named
	for range m.next(4) {
		n := impl.Named{Name: m.name(), Type: m.someType()}
		if dotted {
			n.Name = []string{"m", "n", "main", "k"}[m.next(4)] + "." + []string{"T", "a"}[m.next(2)]
		}
		list = append(list, n)
	}
	if m.next(8) > 0 {
		slices.SortFunc(list, func(a, b impl.Named) int { return strings.Compare(a.Name, b.Name) })
		list = slices.CompactFunc(list, func(a, b impl.Named) bool { return a.Name == b.Name })
	}
	return list
}

func (m *handMaker) exp(room int) impl.Exp {
	e := impl.Exp{Kind: m.next(13), Text: m.name(), N: m.next(9), Line: m.next(90)}
	if m.next(30) == 0 {
		e.Kind = m.next(20) - 3
	}
	if room <= 0 {
		e.Kind %= 6
	}
	count := map[int]int{impl.ExField: 1, impl.ExCall: 1 + m.next(3), impl.ExIf: 3, impl.ExAdd: 2, impl.ExSame: 2, impl.ExIn: 2, impl.ExRecord: m.next(3)}[e.Kind]
	if e.Kind == impl.ExRecord {
		e.Names = []string{"a", "b"}[:count]
	}
	if m.next(20) == 0 {
		count, e.Names = m.next(4), m.names(3)
	}
	if e.Kind == impl.ExMod {
		e.Text, e.Names = []string{"m", "n", "k"}[m.next(3)], append(m.names(1), "a")
	}
	for range count {
		e.Kids = append(e.Kids, m.exp(room-1))
	}
	return e
}

func (m *handMaker) module() impl.Module {
	out := impl.Module{Imports: []string{"m", "n", "main"}[:m.next(4)]}
	for range m.next(6) {
		d := impl.Def{Kind: m.next(3), Name: m.name(), Line: m.next(90), Typed: m.next(2) == 0, Type: m.someType(), Exp: m.exp(3)}
		if d.Kind == impl.DefFn || m.next(10) == 0 {
			d.Params = m.names(3)
			for range d.Params {
				d.Types = append(d.Types, m.someType())
			}
		}
		if m.next(15) == 0 {
			d.Kind, d.Types = m.next(9)-3, append(d.Types, m.someType())[m.next(len(d.Types)+1):]
		}
		out.Defs = append(out.Defs, d)
	}
	return out
}

func (m *handMaker) summaries() []impl.Summary {
	var list []impl.Summary
	for range m.next(4) {
		s := impl.Summary{Name: []string{"m", "n", "main", "k"}[m.next(4)], Types: m.env(true), Exports: m.env(false)}
		if m.next(3) == 0 {
			s = dark(s.Name)
		}
		s.Bad = s.Bad || m.next(10) == 0
		list = append(list, s)
	}
	return list
}

func inferAsByWords(t *testing.T, env []impl.Named, imports []impl.Summary, scope []impl.Named, e impl.Exp) impl.Type {
	t.Helper()
	got, faults := impl.Infer(env, imports, scope, e)
	want, wantFaults := inferByWords(env, imports, scope, e)
	if !sameType(got, want) || !slices.Equal(faults, wantFaults) {
		t.Fatalf("Infer(%v, %v, %v, %+v) = %v, %q, want %v, %q", env, imports, scope, e, got, faultsText(faults), want, faultsText(wantFaults))
	}
	return got
}

func TestModulesThrownTogetherAsTheDocumentsWordsTell(t *testing.T) {
	right, wrong := 0, 0
	for seed := range uint64(6000) {
		m := &handMaker{typeMaker{bytes: someBytes(seed, 1200)}}
		imports := m.summaries()
		inferAsByWords(t, m.env(m.next(2) == 0), imports, append(m.env(false), m.env(false)...), m.exp(4))
		mod := "main"
		if m.next(15) == 0 {
			mod = m.name()
		}
		if checkAsByWords(t, mod, m.module(), imports) {
			right++
		} else {
			wrong++
		}
	}
	if right < 600 || wrong < 3000 {
		t.Error("the test's modules are of one sort:", right, wrong)
	}
}

// strangers are definitions on lines from 1000 on that no made module names.
func strangers(t *testing.T) []impl.Def {
	t.Helper()
	list := mustParse(t, lines(
		"type Q = {q: Q | R}", "type R = (Q) -> S", "type S = int", "let s0: S = 1", "let s1 = {q = s0}", "fn s2(x: Q): Q = x",
		"let s3 = s2", "let s4: text = s1", "type Loop = Loop", "let s5 = s6", "let s5: Lost = s0.x", "fn s7(y: int): bool = y == s5",
	)).Defs
	for i := range list {
		moveExp(&list[i].Exp, 1000)
		list[i].Line += 1000
	}
	return list
}

func moveExp(e *impl.Exp, by int) {
	e.Line += by
	for i := range e.Kids {
		moveExp(&e.Kids[i], by)
	}
}

func ownFaults(list []impl.Diag) []impl.Diag {
	return slices.DeleteFunc(slices.Clone(list), func(d impl.Diag) bool { return d.Line >= 1000 })
}

func TestModulesAmongStrangersAreTheSame(t *testing.T) {
	others := strangers(t)
	stranger := library(t, "s", "type T = {s: T | int}\nlet y: T = {s = 1}\nfn v1(): T = y")
	right := 0
	for _, amiss := range []int{0, 30} {
		madeModules(t, 600, amiss, func(m impl.Module, imports []impl.Summary, src string) {
			wrong, s := impl.CheckModule("main", m, imports)
			maker := typeMaker{bytes: someBytes(uint64(len(src)), 100)}
			// those that are right first, so that there is a summary to be looked at
			for _, count := range []int{6, len(others)} {
				mixed := impl.Module{Imports: append([]string{"s", "lost"}, m.Imports...), Defs: slices.Clone(m.Defs)}
				at := 0
				for _, d := range others[:count] {
					at += maker.next(len(mixed.Defs) - at + 1)
					mixed.Defs = slices.Insert(mixed.Defs, at, d)
					at++
				}
				all := append([]impl.Summary{stranger, dark("lost")}, imports...)
				got, of := impl.CheckModule("main", mixed, all)
				if !slices.Equal(ownFaults(got), wrong) {
					t.Fatalf("among strangers\n%s by %+v\nis wrong by %q, not %q", impl.ShowModule(mixed), all, faultsText(got), faultsText(wrong))
				}
				if len(got) == 0 {
					right++
					wantSameAmongStrangers(t, s, of)
				}
			}
		})
	}
	if right < 150 {
		t.Error("few modules are right:", right)
	}
}

func wantSameAmongStrangers(t *testing.T, alone, among impl.Summary) {
	t.Helper()
	for _, n := range alone.Exports {
		got, ok := impl.Lookup(among.Exports, n.Name)
		if !ok || !sameType(got, n.Type) {
			t.Fatalf("%s is told as %s, not %s", n.Name, impl.TypeText(got), impl.TypeText(n.Type))
		}
	}
	for _, n := range alone.Types {
		got, ok := impl.Lookup(among.Types, n.Name)
		if !ok || !sameType(got, n.Type) {
			t.Fatalf("%s is told as %s, not %s", n.Name, impl.TypeText(got), impl.TypeText(n.Type))
		}
	}
}

// exps hands out the expressions of a module, each with an environment and a scope that go with it.
func expsOf(t *testing.T, m impl.Module, imports []impl.Summary, do func(env, scope []impl.Named, e impl.Exp)) {
	t.Helper()
	env, wrong := impl.Scope("main", m, imports)
	if len(wrong) > 0 {
		return
	}
	var scope []impl.Named
	for _, d := range m.Defs {
		if d.Kind == impl.DefType {
			continue
		}
		inner := slices.Clone(scope)
		of, _ := impl.Infer(env, imports, scope, d.Exp)
		if d.Typed {
			of = impl.Rename(d.Type, "main")
		}
		if d.Kind == impl.DefFn {
			whole := impl.Type{Kind: impl.TyFn}
			for i, x := range d.Types {
				inner = append(inner, impl.Named{Name: d.Params[i], Type: impl.Rename(x, "main")})
				whole.Kids = append(whole.Kids, impl.Rename(x, "main"))
			}
			whole.Kids = append(whole.Kids, of)
			of = whole
			inner = append([]impl.Named{{Name: d.Name, Type: of}}, inner...)
		}
		do(env, inner, d.Exp)
		scope = append(scope, impl.Named{Name: d.Name, Type: of})
	}
}

func TestExpressionsAmongStrangersAreTheSame(t *testing.T) {
	count := 0
	for _, amiss := range []int{0, 15} {
		madeModules(t, 300, amiss, func(m impl.Module, imports []impl.Summary, src string) {
			expsOf(t, m, imports, func(env, scope []impl.Named, e impl.Exp) {
				count++
				got, wrong := impl.Infer(env, imports, scope, e)
				more := slices.Clone(env)
				more = append(more, envFrom(t, "A = B", "B = {a: A}", "main.Z = int", "z.Z = main.Z | text")...)
				slices.SortFunc(more, func(a, b impl.Named) int { return strings.Compare(a.Name, b.Name) })
				all := append([]impl.Summary{{Name: "s", Exports: envFrom(t, "y = int")}, dark("lost")}, imports...)
				wide := append(envFrom(t, "y = text", "z1 = int", "z2 = A"), scope...)
				wide = append(wide, envFrom(t, "z1 = text", "z3 = (int) -> int")...)
				if len(scope) == 0 {
					wide = wide[1:]
				}
				again, wrongAgain := impl.Infer(more, all, wide, e)
				if !sameType(got, again) || !slices.Equal(wrong, wrongAgain) {
					t.Fatalf("among strangers %+v is %s, %q, not %s, %q", e, impl.TypeText(again), faultsText(wrongAgain), impl.TypeText(got), faultsText(wrong))
				}
			})
		})
	}
	if count < 500 {
		t.Error("few expressions:", count)
	}
}

func TestWithAnyInScopeNothingButNamesIsWrong(t *testing.T) {
	wrongOnes, fewer := 0, 0
	for _, amiss := range []int{0, 12, 4} {
		madeModules(t, 2000, amiss, func(m impl.Module, imports []impl.Summary, src string) {
			expsOf(t, m, imports, func(env, scope []impl.Named, e impl.Exp) {
				_, wrong := impl.Infer(env, imports, scope, e)
				loose := slices.Clone(scope)
				for i := range loose {
					loose[i].Type = anyT
				}
				_, left := impl.Infer(env, imports, loose, e)
				if len(wrong) > 0 {
					wrongOnes++
				}
				if len(left) < len(wrong) {
					fewer++
				}
				at := 0
				for _, d := range left {
					if d.Code == "name" && slices.Contains(wrong, d) {
						continue
					}
					for at < len(wrong) && wrong[at] != d {
						at++
					}
					if at == len(wrong) {
						t.Fatalf("with any in scope %+v is wrong by %q, without by %q", e, faultsText(left), faultsText(wrong))
					}
					at++
				}
			})
		})
	}
	if wrongOnes < 200 || fewer < 30 {
		t.Error("the test's expressions are of one sort:", wrongOnes, fewer)
	}
}

func TestLinesMoveWithTheirWords(t *testing.T) {
	madeModules(t, 300, 8, func(m impl.Module, imports []impl.Summary, src string) {
		down, line := impl.ParseModule("\n# a note\n\n" + src)
		if line != 0 {
			return
		}
		wrong, s := impl.CheckModule("main", m, imports)
		moved, sMoved := impl.CheckModule("main", down, imports)
		for i := range wrong {
			wrong[i].Line += 3
		}
		if !slices.Equal(wrong, moved) || !sameSummary(s, sMoved) {
			t.Fatalf("three lines down\n%s is wrong by %q, not %q", src, faultsText(moved), faultsText(wrong))
		}
	})
}

func roomySummaries(list []impl.Summary) []impl.Summary {
	var out []impl.Summary
	for _, s := range list {
		out = append(out, impl.Summary{Name: strings.Clone(s.Name), Bad: s.Bad, Types: roomyEnv(s.Types), Exports: roomyEnv(s.Exports)})
	}
	return append(out, dark("spare"))[:len(list)]
}

func (m *memoryOf) addSummaries(list []impl.Summary) {
	list = list[:cap(list)]
	for i := range list {
		m.places[&list[i]]++
		m.addSummary(list[i])
	}
}

func (m *memoryOf) addSummary(s impl.Summary) {
	m.texts = append(m.texts, s.Name)
	m.addEnv(s.Types)
	m.addEnv(s.Exports)
}

func (m *memoryOf) addDiags(list []impl.Diag) {
	list = list[:cap(list)]
	for i := range list {
		m.places[&list[i]]++
		m.texts = append(m.texts, list[i].Code)
	}
}

// wantNewChecks calls each function of the chapter with lists that have room behind them.
func wantNewChecks(t *testing.T, mod string, m impl.Module, imports []impl.Summary, env, scope []impl.Named) {
	t.Helper()
	m, imports, env, scope = roomyModule(m), roomySummaries(imports), roomyEnv(env), roomyEnv(scope)
	all := func() any {
		return []any{wholeModule(reflect.ValueOf(m)).Interface(), wholeModule(reflect.ValueOf(imports)).Interface(), wholeEnv(env), wholeEnv(scope)}
	}
	before := all()
	given := newMemory()
	given.addModule(m)
	given.addSummaries(imports)
	given.addEnv(env)
	given.addEnv(scope)
	given.texts = append(given.texts, mod)
	look := func(what string, add func(a *memoryOf)) {
		answer := newMemory()
		add(answer)
		wantNewMemory(t, what, answer, given)
	}
	look("Scope", func(a *memoryOf) {
		got, wrong := impl.Scope(mod, m, imports)
		a.addEnv(got)
		a.addDiags(wrong)
	})
	look("CheckModule", func(a *memoryOf) {
		wrong, s := impl.CheckModule(mod, m, imports)
		a.addDiags(wrong)
		a.addSummary(s)
	})
	for _, d := range m.Defs {
		look("Infer", func(a *memoryOf) {
			got, wrong := impl.Infer(env, imports, scope, d.Exp)
			a.addType(got)
			a.addDiags(wrong)
		})
	}
	if !reflect.DeepEqual(all(), before) {
		t.Fatalf("written into the arguments of %q\n%s", mod, impl.ShowModule(m))
	}
}

func TestNothingIsWrittenIntoWhatIsCheckedAndAnswersAreNew(t *testing.T) {
	for _, amiss := range []int{0, 10} {
		madeModules(t, 40, amiss, func(m impl.Module, imports []impl.Summary, src string) {
			env, _ := impl.Scope("main", m, imports)
			wantNewChecks(t, "main", m, imports, env, envFrom(t, "y = any", "v1 = {a: int | text}", "v2 = (int) -> main.T1"))
		})
	}
	for seed := range uint64(300) {
		m := &handMaker{typeMaker{bytes: someBytes(seed+70000, 700)}}
		wantNewChecks(t, []string{"main", "let", "m"}[seed%3], m.module(), m.summaries(), m.env(true), append(m.env(false), m.env(false)...))
	}
	shared := recordT("x", nameT("m.T"))
	of := []impl.Summary{{Name: "m", Types: []impl.Named{{Name: "m.T", Type: fnT(shared, shared)}, {Name: "m.U", Type: shared}}, Exports: []impl.Named{{Name: "v", Type: fnT(shared, shared)}, {Name: "w", Type: shared}}}}
	m := moduleOf("m", letDef("a", exMod("m", "v")), letDef("b", exMod("m", "v")), letDef("c", exRecord("a b", exName("a"), exName("a"))), typedLet("d", fnT(shared, shared), exName("a")))
	wantNewChecks(t, "main", m, of, of[0].Types, of[0].Exports)
	wrong, s := impl.CheckModule("main", m, of)
	answer := newMemory()
	answer.addSummary(s)
	wantNewMemory(t, "CheckModule", answer, newMemory())
	if len(wrong) > 0 || len(s.Exports) != 4 {
		t.Error(faultsText(wrong))
	}
}

func TestAnyModuleIsAnswered(t *testing.T) {
	types := append(listT(intT, nameT(""), nameT("main.T"), unionT(nameT("T"))), withinItself()...)
	for _, c := range wrongTypes {
		types = append(types, c.t)
	}
	exps := []impl.Exp{{}, exName("x"), exMod("m", "v"), exCall(exName("x"), exName("x")), exAdd(exName("x"), exMod("m", "v")), exField(exName("x"), "a"), exIf(exName("x"), exName("x"), exInt(1)), expWithinItself(impl.ExIn, 2), expWithinItself(impl.ExRecord, 3)}
	for i, x := range types {
		y := types[(i+3)%len(types)]
		exps := exps[i%3:]
		env := []impl.Named{{Name: "main.T", Type: x}, {Name: "x", Type: y}, {Name: "m.T", Type: x}}
		imports := []impl.Summary{{Name: "m", Types: env, Exports: []impl.Named{{Name: "v", Type: x}, {Name: "w", Type: y}}}, {}, {Name: "n", Bad: true, Types: env}}
		m := moduleOf("m m n main nowhere", typeDef("T", x), typeDef("U", y))
		for at := 0; at < len(exps); at += 3 {
			e := exps[at]
			impl.Infer(env, imports, env, e)
			impl.Infer(nil, imports, env, e)
			m.Defs = append(m.Defs, letDef("x", e), typedLet("z", x, e), fnDef("f", "x y z", listT(x, y), x, e), impl.Def{Kind: 9, Name: "x", Types: listT(y), Exp: e})
			impl.CheckModule("main", moduleOf("m", letDef("x", e)), imports)
		}
		for _, mod := range []string{"main", "", "m"} {
			impl.CheckModule(mod, m, imports)
		}
	}
	if got, wrong := impl.Infer(nil, nil, nil, impl.Exp{}); !sameType(got, intT) || len(wrong) != 0 {
		t.Error(got, wrong)
	}
	huge := impl.Module{Imports: slices.Repeat([]string{"m"}, 100000)}
	for i := range 100000 {
		huge.Defs = append(huge.Defs, letDef("a"+strconv.Itoa(i), exInt(i)))
	}
	if wrong, _ := impl.CheckModule("main", huge, nil); faultsText(wrong) != "1:many" {
		t.Error("a huge module", len(wrong))
	}
	for i := range huge.Defs {
		huge.Defs[i] = typeDef("T"+strconv.Itoa(i), nameT("U"))
	}
	if env, wrong := impl.Scope("main", huge, nil); faultsText(wrong) != "1:many" || len(env) != 0 {
		t.Error("a huge module of types", len(env), len(wrong))
	}
}

func FuzzCheck(f *testing.F) {
	f.Add(eachKindSource, someBytes(1, 300))
	f.Add("import m type T = T | m.T let a: T = m.v fn f(a: T): int = f(a) + 1", someBytes(2, 600))
	f.Fuzz(func(t *testing.T, src string, bytes []byte) {
		hand := &handMaker{typeMaker{bytes: bytes[:min(len(bytes), 800)]}}
		imports := hand.summaries()
		inferAsByWords(t, hand.env(true), imports, hand.env(false), hand.exp(4))
		checkAsByWords(t, "main", hand.module(), imports)
		maker := &checkMaker{typeMaker: hand.typeMaker, amiss: 10, mod: "main"}
		for _, text := range []string{src, maker.source()} {
			if m, line := impl.ParseModule(text); line == 0 {
				checkAsByWords(t, "main", m, imports)
				wantPromiseOfCheck(t, "main", m, nil)
			}
		}
	})
}
