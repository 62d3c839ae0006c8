package tests

import (
	"math"
	"reflect"
	"slices"
	"strconv"
	"strings"
	"testing"

	"loop.example/g00276/impl"
)

// A moduleMaker writes a module of bytes, with blanks of any sort between words, and tells what is to be read.
type moduleMaker struct {
	typeMaker
	out     strings.Builder
	line    int
	last    byte
	imports []string
}

var makerNames = []string{"a", "b", "m", "n", "T", "abcdefghijkl", "x1"}

func isLetterOrDigit(b byte) bool {
	return b >= '0' && b <= '9' || b >= 'a' && b <= 'z' || b >= 'A' && b <= 'Z'
}

// word writes a word and tells its line.
func (m *moduleMaker) word(s string) int {
	blank := append([]string{"", "", "", " ", " ", " "}, blankTexts...)[m.next(6+len(blankTexts))]
	if blank == "" && isLetterOrDigit(m.last) && isLetterOrDigit(s[0]) {
		blank = " "
	}
	m.line += strings.Count(blank, "\n")
	m.out.WriteString(blank + s)
	m.last = s[len(s)-1]
	return m.line
}

func (m *moduleMaker) name() string {
	name := makerNames[m.next(len(makerNames))]
	m.word(name)
	return name
}

func (m *moduleMaker) otherNames(most int) []string {
	names := slices.Clone(makerNames)
	for i := range names {
		j := i + m.next(len(names)-i)
		names[i], names[j] = names[j], names[i]
	}
	return names[:m.next(most+1)]
}

// between tells the line of the bracket that opens.
func (m *moduleMaker) between(open, shut string, count int, write func(i int)) int {
	line := m.word(open)
	for i := range count {
		if i > 0 {
			m.word(",")
		}
		write(i)
	}
	m.word(shut)
	return line
}

func (m *moduleMaker) wholeType(room int) impl.Type {
	list := listT(m.oneType(room))
	for room > 0 && m.next(4) == 3 {
		m.word("|")
		list = append(list, m.oneType(room))
	}
	u, ok := unionByWords(list)
	if !ok {
		panic("the test's type is too deep")
	}
	return u
}

func (m *moduleMaker) oneType(room int) impl.Type {
	kind := m.next(9)
	if room <= 0 {
		kind %= 5
	}
	switch kind {
	case impl.TyName:
		name := m.name()
		if m.next(2) == 0 {
			m.word(".")
			name += "." + m.name()
		}
		return nameT(name)
	case impl.TyRecord:
		names := m.otherNames(3)
		fields := map[string]impl.Type{}
		m.between("{", "}", len(names), func(i int) {
			m.word(names[i])
			m.word(":")
			fields[names[i]] = m.wholeType(room - 1)
		})
		names = slices.Sorted(slices.Values(names))
		var kids []impl.Type
		for _, name := range names {
			kids = append(kids, fields[name])
		}
		return recordT(strings.Join(names, " "), kids...)
	case impl.TyFn, 7:
		var kids []impl.Type
		m.between("(", ")", m.next(3), func(i int) { kids = append(kids, m.wholeType(room-1)) })
		m.word("->")
		return fnT(append(kids, m.oneType(room-1))...)
	case 8:
		m.word("(")
		x := m.wholeType(room - 1)
		m.word(")")
		return x
	}
	m.word([]string{"int", "text", "bool", "any"}[kind])
	return impl.Type{Kind: kind}
}

func (m *moduleMaker) wholeExp(room int) impl.Exp {
	if room > 0 && m.next(6) == 5 {
		e := impl.Exp{Kind: impl.ExIn, Line: m.word("let"), Text: m.name()}
		m.word("=")
		e.Kids = append(e.Kids, m.wholeExp(room-1))
		m.word("in")
		e.Kids = append(e.Kids, m.wholeExp(room-1))
		return e
	}
	if room > 0 && m.next(6) == 5 {
		e := impl.Exp{Kind: impl.ExIf, Line: m.word("if")}
		e.Kids = append(e.Kids, m.wholeExp(room-1))
		m.word("then")
		e.Kids = append(e.Kids, m.wholeExp(room-1))
		m.word("else")
		e.Kids = append(e.Kids, m.wholeExp(room-1))
		return e
	}
	left := m.sumExp(room - 1)
	if m.next(5) < 4 {
		return left
	}
	m.word("==")
	return impl.Exp{Kind: impl.ExSame, Line: left.Line, Kids: []impl.Exp{left, m.sumExp(room - 1)}}
}

func (m *moduleMaker) sumExp(room int) impl.Exp {
	sum := m.partExp(room)
	for m.next(5) == 4 {
		m.word("+")
		sum = impl.Exp{Kind: impl.ExAdd, Line: sum.Line, Kids: []impl.Exp{sum, m.partExp(room)}}
	}
	return sum
}

func (m *moduleMaker) partExp(room int) impl.Exp {
	e := m.firstExp(room)
	for {
		switch m.next(7) {
		case 4, 5:
			m.word(".")
			name := m.name()
			if e.Kind == impl.ExName && slices.Contains(m.imports, e.Text) {
				e = impl.Exp{Kind: impl.ExMod, Line: e.Line, Text: e.Text, Names: []string{name}}
			} else {
				e = impl.Exp{Kind: impl.ExField, Line: e.Line, Text: name, Kids: []impl.Exp{e}}
			}
		case 6:
			e = impl.Exp{Kind: impl.ExCall, Line: e.Line, Kids: []impl.Exp{e}}
			m.between("(", ")", m.next(7)*m.next(2), func(i int) { e.Kids = append(e.Kids, m.wholeExp(room-1)) })
		default:
			return e
		}
	}
}

func (m *moduleMaker) firstExp(room int) impl.Exp {
	kind := m.next(8)
	if room <= 0 {
		kind %= 5
	}
	switch kind {
	case 0:
		n := []int{0, 7, 999999999}[m.next(3)]
		return impl.Exp{Kind: impl.ExInt, N: n, Line: m.word(strconv.Itoa(n))}
	case 1:
		s := []string{"", "in", "# ~!"}[m.next(3)]
		return impl.Exp{Kind: impl.ExText, Text: s, Line: m.word("\"" + s + "\"")}
	case 2:
		return impl.Exp{Kind: impl.ExTrue, Line: m.word("true")}
	case 3:
		return impl.Exp{Kind: impl.ExFalse, Line: m.word("false")}
	case 5:
		m.word("(")
		e := m.wholeExp(room - 1)
		m.word(")")
		return e
	case 6:
		names := m.otherNames(3)
		e := impl.Exp{Kind: impl.ExRecord, Names: names}
		e.Line = m.between("{", "}", len(names), func(i int) {
			m.word(names[i])
			m.word("=")
			e.Kids = append(e.Kids, m.wholeExp(room-1))
		})
		return e
	}
	name := m.name()
	return impl.Exp{Kind: impl.ExName, Text: name, Line: m.line}
}

func (m *moduleMaker) module() impl.Module {
	m.line = 1
	out := impl.Module{Imports: m.otherNames(3)}
	for _, name := range out.Imports {
		m.word("import")
		m.word(name)
	}
	m.imports = out.Imports
	for range m.next(4) {
		var d impl.Def
		switch m.next(3) {
		case 0:
			d = impl.Def{Kind: impl.DefType, Line: m.word("type"), Name: m.name()}
			m.word("=")
			d.Type = m.wholeType(3)
		case 1:
			d = impl.Def{Kind: impl.DefLet, Line: m.word("let"), Name: m.name()}
			if m.next(3) == 0 {
				m.word(":")
				d.Typed = true
				d.Type = m.wholeType(2)
			}
			m.word("=")
			d.Exp = m.wholeExp(5)
		case 2:
			d = impl.Def{Kind: impl.DefFn, Line: m.word("fn"), Name: m.name(), Typed: true, Params: m.otherNames(4)}
			m.between("(", ")", len(d.Params), func(i int) {
				m.word(d.Params[i])
				m.word(":")
				d.Types = append(d.Types, m.wholeType(1))
			})
			m.word(":")
			d.Type = m.wholeType(2)
			m.word("=")
			d.Exp = m.wholeExp(5)
		}
		out.Defs = append(out.Defs, d)
	}
	return out
}

func nestByWords(e impl.Exp) int {
	most := 0
	for _, kid := range e.Kids {
		most = max(most, 1+nestByWords(kid))
	}
	return most
}

func showByWords(m impl.Module) string {
	text := ""
	for _, name := range m.Imports {
		text += "import " + name + "\n"
	}
	for _, d := range m.Defs {
		switch d.Kind {
		case 0:
			text += "type " + d.Name + " = " + textByWords(d.Type)
		case 1:
			text += "let " + d.Name
			if d.Typed {
				text += ": " + textByWords(d.Type)
			}
			text += " = " + showExpByWords(d.Exp, false)
		default:
			text += "fn " + d.Name + "("
			for i, name := range d.Params {
				text += strings.Repeat(", ", min(i, 1)) + name + ": " + textByWords(d.Types[i])
			}
			text += "): " + textByWords(d.Type) + " = " + showExpByWords(d.Exp, false)
		}
		text += "\n"
	}
	return text
}

func showExpByWords(e impl.Exp, within bool) string {
	var kids []string
	for i, kid := range e.Kids {
		text := showExpByWords(kid, true)
		if e.Kind == impl.ExRecord {
			text = e.Names[i] + " = " + text
		}
		kids = append(kids, text)
	}
	text := ""
	switch e.Kind {
	case impl.ExInt:
		return strconv.Itoa(e.N)
	case impl.ExText:
		return "\"" + e.Text + "\""
	case impl.ExTrue:
		return "true"
	case impl.ExFalse:
		return "false"
	case impl.ExName:
		return e.Text
	case impl.ExMod:
		return e.Text + "." + e.Names[0]
	case impl.ExField:
		return kids[0] + "." + e.Text
	case impl.ExRecord:
		return "{" + strings.Join(kids, ", ") + "}"
	case impl.ExCall:
		return kids[0] + "(" + strings.Join(kids[1:], ", ") + ")"
	case impl.ExIf:
		text = "if " + kids[0] + " then " + kids[1] + " else " + kids[2]
	case impl.ExAdd:
		text = kids[0] + " + " + kids[1]
	case impl.ExSame:
		text = kids[0] + " == " + kids[1]
	case impl.ExIn:
		text = "let " + e.Text + " = " + kids[0] + " in " + kids[1]
	}
	if within {
		return "(" + text + ")"
	}
	return text
}

// readAsMade tells whether a made module's text is within a source's bound, and holds what is read of it to be what was made.
func readAsMade(t *testing.T, bytes []byte) (impl.Module, bool) {
	t.Helper()
	maker := &moduleMaker{typeMaker: typeMaker{bytes: bytes}}
	want := maker.module()
	src := maker.out.String()
	if len(src) > impl.MaxSource {
		return want, false
	}
	nest := 0
	for _, d := range want.Defs {
		nest = max(nest, nestByWords(d.Exp))
	}
	got, line := impl.ParseModule(src)
	if nest > impl.MaxNest {
		if line != 1 || len(got.Defs)+len(got.Imports) > 0 {
			t.Fatalf("%q: line %d, want 1", src, line)
		}
		return want, false
	}
	if line != 0 || !reflect.DeepEqual(plain(got, true), plain(want, true)) {
		t.Fatalf("ParseModule(%q) = %+v, %d, want %+v", src, got, line, want)
	}
	if shown := impl.ShowModule(got); shown != showByWords(want) {
		t.Fatalf("ShowModule of %q is %q, want %q", src, shown, showByWords(want))
	}
	wantComesBack(t, got)
	return want, true
}

func TestModulesThatAreMadeAreRead(t *testing.T) {
	read, defs := 0, 0
	kinds := map[int]int{}
	for seed := range uint64(8000) {
		m, ok := readAsMade(t, someBytes(seed+77, 600))
		if !ok {
			continue
		}
		read++
		defs += len(m.Defs)
		var count func(e impl.Exp)
		count = func(e impl.Exp) {
			kinds[e.Kind]++
			for _, kid := range e.Kids {
				count(kid)
			}
		}
		for _, d := range m.Defs {
			count(d.Exp)
		}
	}
	for kind := impl.ExInt; kind <= impl.ExIn; kind++ {
		if kinds[kind] < 500 {
			t.Error("few of kind", kind, kinds[kind])
		}
	}
	if read < 4000 || defs < 4000 {
		t.Error("the test's modules are of one sort:", read, defs)
	}
}

// moduleForm is the chapter's form, a line a rule: what stands in <> is told by rules of its own.
const moduleForm = `
<module> <imports> <defs>
<imports>
<imports> <imports> import NAME
<defs>
<defs> <defs> <def>
<def> type NAME = <type>
<def> let NAME = <exp>
<def> let NAME : <type> = <exp>
<def> fn NAME ( ) : <type> = <exp>
<def> fn NAME ( <params> ) : <type> = <exp>
<params> NAME : <type>
<params> <params> , NAME : <type>
<type> <one>
<type> <type> | <one>
<one> int
<one> text
<one> bool
<one> any
<one> NAME
<one> NAME . NAME
<one> { }
<one> { <params> }
<one> ( ) -> <one>
<one> ( <types> ) -> <one>
<one> ( <type> )
<types> <type>
<types> <types> , <type>
<exp> let NAME = <exp> in <exp>
<exp> if <exp> then <exp> else <exp>
<exp> <sum>
<exp> <sum> == <sum>
<sum> <part>
<sum> <sum> + <part>
<part> NUMBER
<part> TEXT
<part> true
<part> false
<part> { }
<part> { <sets> }
<part> ( <exp> )
<part> NAME
<part> <part> . NAME
<part> <part> ( )
<part> <part> ( <exp> )
<part> <part> ( <exp> , <exp> )
<part> <part> ( <exp> , <exp> , <exp> )
<part> <part> ( <exp> , <exp> , <exp> , <exp> )
<part> <part> ( <exp> , <exp> , <exp> , <exp> , <exp> )
<part> <part> ( <exp> , <exp> , <exp> , <exp> , <exp> , <exp> )
<sets> NAME = <exp>
<sets> <sets> , NAME = <exp>`

// A rulePlace is a rule that was begun at a word, read up to a place in it.
type rulePlace struct {
	rule, at, from int
}

// A formReader keeps, for each word, all rules that may be under way there: it takes no way ahead of another.
type formReader struct {
	rules [][]string
	under [][]rulePlace
}

func newFormReader() *formReader {
	r := &formReader{}
	for _, line := range strings.Split(strings.TrimSpace(moduleForm), "\n") {
		r.rules = append(r.rules, strings.Fields(line))
	}
	r.under = [][]rulePlace{{{0, 1, 0}}}
	r.fill()
	return r
}

func (r *formReader) fill() {
	now := len(r.under) - 1
	known := map[rulePlace]int{}
	for _, p := range r.under[now] {
		known[p] = 1
	}
	add := func(p rulePlace) {
		if known[p] == 0 {
			known[p] = 1
			r.under[now] = append(r.under[now], p)
		}
	}
	// until nothing more comes, as a rule of nothing is done where it is begun
	for before := 0; before < len(r.under[now]); {
		before = len(r.under[now])
		for i := 0; i < len(r.under[now]); i++ {
			p := r.under[now][i]
			rule := r.rules[p.rule]
			if p.at == len(rule) {
				for _, q := range r.under[p.from] {
					if q.at < len(r.rules[q.rule]) && r.rules[q.rule][q.at] == rule[0] {
						add(rulePlace{q.rule, q.at + 1, q.from})
					}
				}
				continue
			}
			for k, other := range r.rules {
				if other[0] == rule[p.at] {
					add(rulePlace{k, 1, now})
				}
			}
		}
	}
}

// takes tells whether some module goes on with that word.
func (r *formReader) takes(word string) bool {
	var next []rulePlace
	for _, p := range r.under[len(r.under)-1] {
		if rule := r.rules[p.rule]; p.at < len(rule) && rule[p.at] == word {
			next = append(next, rulePlace{p.rule, p.at + 1, p.from})
		}
	}
	if len(next) == 0 {
		return false
	}
	r.under = append(r.under, next)
	r.fill()
	return true
}

func (r *formReader) isWhole() bool {
	return slices.Contains(r.under[len(r.under)-1], rulePlace{0, len(r.rules[0]), 0})
}

// lineByForm is the line that the form alone asks for, of words one a line: no word of them stands twice.
func lineByForm(words []string) int {
	r := newFormReader()
	for i, word := range words {
		switch {
		case word[0] == '"':
			word = "TEXT"
		case word[0] >= '0' && word[0] <= '9':
			word = "NUMBER"
		case impl.NameOk(word):
			word = "NAME"
		}
		if !r.takes(word) {
			return i + 1
		}
	}
	if r.isWhole() {
		return 0
	}
	return len(words)
}

// apart gives each name of some words a number, so that none stands twice.
func apart(words []string) []string {
	out := slices.Clone(words)
	for i, word := range out {
		if impl.NameOk(word) {
			out[i] = "n" + strconv.Itoa(i)
		}
	}
	return out
}

func wantLineByForm(t *testing.T, words []string) int {
	t.Helper()
	words = apart(words)
	want := lineByForm(words)
	src := strings.Join(words, "\n")
	m, line := impl.ParseModule(src)
	if line != want || line > 0 && len(m.Imports)+len(m.Defs) > 0 {
		t.Fatalf("ParseModule(%q) = %+v, %d, want line %d", strings.Join(words, " "), m, line, want)
	}
	return want
}

var formWords = []string{"import", "type", "let", "fn", "if", "then", "else", "in", "true", "false", "int", "text", "bool", "any", "x", "y", "1", `"s"`, "->", "==", "+", "=", ":", ",", ".", "|", "(", ")", "{", "}"}

func TestEachShortTextAsTheFormTells(t *testing.T) {
	// behind each beginning all of one and of two words more
	for _, head := range []string{"", "import a", "type T =", "type T = a", "type T = { a :", "type T = { a : int", "type T = (", "type T = ( int", "type T = ( int )", "type T = ( ) ->", "let x", "let x =", "let x = a", "let x = a .", "let x = f ( a", "let x = 1 == 2", "let x = ( 1", "let x = { a", "let x = { a = 1", "let x = if a", "let x = if a then b", "let x = let a = 1", "let x : int", "fn f (", "fn f ( a : int", "fn f ( )", "fn f ( ) : int"} {
		words := strings.Fields(head)
		for _, a := range formWords {
			wantLineByForm(t, append(slices.Clone(words), a))
			for _, b := range formWords {
				wantLineByForm(t, append(slices.Clone(words), a, b))
			}
		}
	}
}

func TestTextsWithAWordAmissAsTheFormTells(t *testing.T) {
	whole, refused := 0, 0
	for seed := range uint64(6000) {
		maker := &moduleMaker{typeMaker: typeMaker{bytes: someBytes(seed+5, 200)}}
		maker.module()
		list, line := impl.Lex(maker.out.String())
		if line != 0 || len(list) > 60 {
			continue
		}
		var words []string
		for _, word := range list {
			switch word.Kind {
			case impl.TokNumber:
				words = append(words, "1")
			case impl.TokText:
				words = append(words, `"s"`)
			default:
				words = append(words, word.Text)
			}
		}
		for range 1 + maker.next(2) {
			at := maker.next(len(words) + 1)
			other := formWords[maker.next(len(formWords))]
			switch maker.next(4) {
			case 0:
				words = slices.Insert(words, at, other)
			case 1:
				words = slices.Delete(words, min(at, len(words)), min(at+1, len(words)))
			case 2:
				words = words[:at]
			case 3:
				if at < len(words) {
					words[at] = other
				}
			}
		}
		if wantLineByForm(t, words) == 0 {
			whole++
		} else {
			refused++
		}
	}
	if whole < 500 || refused < 2000 {
		t.Error("the test's texts are of one sort:", whole, refused)
	}
}

const eachKindSource = `import m import n
type T = {a: int | text, f: (T, m.T) -> bool}
type U = any
let x = {a = 1, b = "s", c = true, d = false, e = m.v, g = x.y.z}
let y: T | () -> text = if x == y then f(1, n) + 2 else (let q = {} in q)
fn f(a: {n: int}, b: any): () -> int = a.n(b)(1)
fn g(): int = 7`

// eachPart hands out each number, text and flag, and each list, that stands in a value, with the name of its field.
func eachPart(v reflect.Value, field string, do func(field string, part reflect.Value)) {
	switch v.Kind() {
	case reflect.Struct:
		for i := range v.NumField() {
			eachPart(v.Field(i), v.Type().Field(i).Name, do)
		}
	case reflect.Slice:
		do(field, v)
		for i := range v.Len() {
			eachPart(v.Index(i), field, do)
		}
	default:
		do(field, v)
	}
}

func countParts(m *impl.Module) int {
	count := 0
	eachPart(reflect.ValueOf(m).Elem(), "", func(string, reflect.Value) { count++ })
	return count
}

// otherwise changes a part in one of some ways, and tells whether there is such a way.
func otherwise(part reflect.Value, way int) bool {
	switch part.Kind() {
	case reflect.Int:
		part.SetInt(part.Int() + []int64{1, -1, math.MinInt64}[way])
	case reflect.Bool:
		part.SetBool(!part.Bool())
	case reflect.String:
		part.SetString([]string{part.String() + "x", "x" + part.String(), strings.ToUpper(part.String()) + "."}[way])
	case reflect.Slice:
		switch way {
		case 0:
			part.Set(reflect.Append(part, reflect.Zero(part.Type().Elem())))
		case 1:
			if part.Len() == 0 {
				return false
			}
			part.Set(part.Slice(0, part.Len()-1))
		case 2:
			if part.Len() < 2 || reflect.DeepEqual(part.Index(0).Interface(), part.Index(1).Interface()) {
				return false
			}
			first := reflect.ValueOf(part.Index(0).Interface())
			part.Index(0).Set(part.Index(1))
			part.Index(1).Set(first)
		}
	}
	return true
}

func TestSameModulesButForOnePart(t *testing.T) {
	whole := mustParse(t, eachKindSource)
	count := countParts(&whole)
	if count < 300 {
		t.Fatal("the test's module has few parts:", count)
	}
	for at := range count {
		for way := range 3 {
			other := mustParse(t, eachKindSource)
			n, changed, field := 0, false, ""
			eachPart(reflect.ValueOf(&other).Elem(), "", func(name string, part reflect.Value) {
				if n == at {
					changed, field = otherwise(part, way), name
				}
				n++
			})
			if !changed {
				continue
			}
			want := field == "Line"
			if impl.SameModule(whole, other) != want || impl.SameModule(other, whole) != want {
				t.Errorf("changed in part %d, %s, by way %d: SameModule is %v", at, field, way, !want)
			}
		}
	}
}

func TestSameModules(t *testing.T) {
	a := mustParse(t, eachKindSource)
	for _, src := range []string{
		eachKindSource,
		"\n\n" + eachKindSource + "\n",
		strings.ReplaceAll(eachKindSource, "\n", " "),
		strings.ReplaceAll(eachKindSource, " ", "\n"),
		strings.ReplaceAll(eachKindSource, "if x == y", "if (x) == ((y))"),
		strings.ReplaceAll(eachKindSource, "int | text", "text | int | text"),
		strings.ReplaceAll(eachKindSource, "m.v", "(m).v"),
	} {
		b := mustParse(t, src)
		if !impl.SameModule(a, b) || !impl.SameModule(b, a) {
			t.Errorf("not the same: %q", src)
		}
	}
	for _, src := range []string{
		"", "import m import n", strings.Replace(eachKindSource, "import n", "", 1), strings.Replace(eachKindSource, "import m import n", "import n import m", 1),
		strings.Replace(eachKindSource, "let x = {", "let x = {z = 1, ", 1), strings.Replace(eachKindSource, "a = 1, b = \"s\"", "b = \"s\", a = 1", 1),
		strings.Replace(eachKindSource, "fn g(): int = 7", "", 1), strings.Replace(eachKindSource, "fn g(): int = 7", "fn g(): any = 7", 1), strings.Replace(eachKindSource, "fn g(): int = 7", "let g: int = 7", 1),
	} {
		b := mustParse(t, src)
		if impl.SameModule(a, b) || impl.SameModule(b, a) || !impl.SameModule(b, b) {
			t.Errorf("the same: %q", src)
		}
	}
	empty := impl.Module{Imports: []string{}, Defs: []impl.Def{}}
	if !impl.SameModule(empty, impl.Module{}) || !impl.SameModule(impl.Module{}, empty) {
		t.Error("an empty list and nil are not the same")
	}
	d := impl.Def{Params: []string{}, Types: []impl.Type{}, Type: impl.Type{Names: []string{}, Kids: []impl.Type{}}, Exp: impl.Exp{Names: []string{}, Kids: []impl.Exp{}}}
	if !impl.SameModule(moduleOf("", d), moduleOf("", impl.Def{})) || impl.SameModule(moduleOf("", d), impl.Module{}) {
		t.Error("a definition of empty lists")
	}
	for _, c := range shownModules {
		for _, other := range shownModules {
			if impl.SameModule(c.m, other.m) != alikeModules(c.m, other.m) {
				t.Errorf("SameModule(%+v, %+v) = %v", c.m, other.m, impl.SameModule(c.m, other.m))
			}
		}
	}
}

func TestSameModulesThatAreMade(t *testing.T) {
	var list []impl.Module
	for seed := range uint64(150) {
		maker := &moduleMaker{typeMaker: typeMaker{bytes: someBytes(seed, 30)}}
		list = append(list, maker.module())
	}
	for _, a := range list {
		for _, b := range list {
			if impl.SameModule(a, b) != alikeModules(a, b) {
				t.Fatalf("SameModule(%+v, %+v) = %v", a, b, impl.SameModule(a, b))
			}
		}
	}
}

func (m *memoryOf) addExps(list []impl.Exp) {
	list = list[:cap(list)]
	for i := range list {
		m.places[&list[i]]++
		m.addExp(list[i])
	}
}

func (m *memoryOf) addExp(e impl.Exp) {
	m.texts = append(m.texts, e.Text)
	m.addNames(e.Names)
	m.addExps(e.Kids)
}

func (m *memoryOf) addModule(x impl.Module) {
	m.addNames(x.Imports)
	defs := x.Defs[:cap(x.Defs)]
	for i, d := range defs {
		m.places[&defs[i]]++
		m.texts = append(m.texts, d.Name)
		m.addNames(d.Params)
		m.addList(d.Types)
		m.addType(d.Type)
		m.addExp(d.Exp)
	}
}

func TestModulesAreNewMemory(t *testing.T) {
	sources := []string{eachKindSource, "import abcdefghijkl let x = abcdefghijkl.abcdefghijkm", "type T = abcdefghijkl.abcdefghijkl | {abcdefghijkl: () -> abcdefghijkl}", "let x = \"a long text that is within it\""}
	for seed := range uint64(300) {
		maker := &moduleMaker{typeMaker: typeMaker{bytes: someBytes(seed, 300)}}
		maker.module()
		sources = append(sources, maker.out.String())
	}
	for _, src := range sources {
		m, _ := impl.ParseModule(src)
		answer, given := newMemory(), newMemory()
		answer.addModule(m)
		given.texts = append(given.texts, src)
		wantNewMemory(t, "ParseModule", answer, given)
		shown, of := newMemory(), newMemory()
		shown.texts = append(shown.texts, impl.ShowModule(m))
		of.addModule(m)
		wantNewMemory(t, "ShowModule", shown, of)
	}
	one := moduleOf("", letDef(strings.Clone("abcdefghijkl"), impl.Exp{Kind: 13}))
	if text := impl.ShowModule(one); within(one.Defs[0].Name, text) {
		t.Error("what is shown holds a text of the module")
	}
}

// roomyExps have room behind each list, in which something stands.
func roomyExps(list []impl.Exp) []impl.Exp {
	out := make([]impl.Exp, 0, len(list)+2)
	for _, e := range list {
		e.Names = append(plainNames(e.Names), "spare")[:len(e.Names)]
		e.Kids = roomyExps(e.Kids)
		out = append(out, e)
	}
	out[:cap(out)][len(out)] = exName("spare")
	return out
}

func roomyModule(m impl.Module) impl.Module {
	out := impl.Module{Imports: append(plainNames(m.Imports), "spare")[:len(m.Imports)]}
	for _, d := range m.Defs {
		d.Params = append(plainNames(d.Params), "spare")[:len(d.Params)]
		d.Types = roomyList(d.Types)
		d.Type = roomy(d.Type)
		d.Exp = roomyExps([]impl.Exp{d.Exp})[0]
		out.Defs = append(out.Defs, d)
	}
	out.Defs = append(out.Defs, letDef("spare", exInt(1)))[:len(m.Defs)]
	return out
}

// wholeModule is a copy of all parts with all that stands behind the lists.
func wholeModule(v reflect.Value) reflect.Value {
	out := reflect.New(v.Type()).Elem()
	out.Set(v)
	switch v.Kind() {
	case reflect.Struct:
		for i := range v.NumField() {
			out.Field(i).Set(wholeModule(v.Field(i)))
		}
	case reflect.Slice:
		all := v.Slice(0, v.Cap())
		out.Set(reflect.MakeSlice(v.Type(), all.Len(), all.Len()))
		for i := range all.Len() {
			out.Index(i).Set(wholeModule(all.Index(i)))
		}
	case reflect.Interface:
		out.Set(wholeModule(v.Elem()))
	}
	return out
}

func TestNothingIsWrittenIntoModules(t *testing.T) {
	var given []impl.Module
	for _, c := range shownModules {
		given = append(given, c.m)
	}
	given = append(given, mustParse(t, eachKindSource))
	for _, m := range given {
		a, b := roomyModule(m), roomyModule(m)
		beforeA, beforeB := wholeModule(reflect.ValueOf(a)).Interface(), wholeModule(reflect.ValueOf(b)).Interface()
		impl.ShowModule(a)
		impl.SameModule(a, b)
		if !reflect.DeepEqual(wholeModule(reflect.ValueOf(a)).Interface(), beforeA) || !reflect.DeepEqual(wholeModule(reflect.ValueOf(b)).Interface(), beforeB) {
			t.Errorf("written into %+v", m)
		}
	}
}

// expWithinItself has itself for each kid.
func expWithinItself(kind, kids int) impl.Exp {
	e := impl.Exp{Kind: kind, Text: "t", Names: []string{"a", "b", "c"}, Kids: make([]impl.Exp, kids)}
	for i := range e.Kids {
		e.Kids[i] = e
	}
	return e
}

func TestModulesWithinThemselves(t *testing.T) {
	var list []impl.Module
	for kind := impl.ExField; kind <= impl.ExIn; kind++ {
		list = append(list, moduleOf("", letDef("x", expWithinItself(kind, 3))))
	}
	for i, m := range list {
		impl.ShowModule(m)
		for j, other := range list {
			if impl.SameModule(m, other) != (i == j) {
				t.Error("SameModule of", i, j)
			}
		}
		again := moduleOf("", letDef("x", expWithinItself(impl.ExField+i, 3)))
		if !impl.SameModule(m, again) || impl.ShowModule(m) != impl.ShowModule(again) {
			t.Error("made again, it is another one", i)
		}
		if impl.SameModule(m, moduleOf("", letDef("x", expWithinItself(impl.ExField+i, 2)))) {
			t.Error("of fewer kids, it is the same one", i)
		}
	}
	types, again := withinItself(), withinItself()
	for i, x := range types {
		m := moduleOf("", typeDef("T", x), fnDef("f", "a", listT(x), x, exInt(1)))
		if got := impl.ShowModule(m); got != "type T = \nfn f(a: ):  = 1\n" {
			t.Errorf("a type that is none is shown as %q", got)
		}
		for j, y := range again {
			if impl.SameModule(m, moduleOf("", typeDef("T", y), fnDef("f", "a", listT(y), y, exInt(1)))) != (i == j) {
				t.Error("SameModule of types", i, j)
			}
		}
	}
}

func TestWideModulesWithinThemselves(t *testing.T) {
	wide := expWithinItself(impl.ExCall, 20000)
	fields := impl.Exp{Kind: impl.ExRecord, Names: slices.Repeat([]string{""}, 20000), Kids: make([]impl.Exp, 1)}
	fields.Kids[0] = fields
	long := expWithinItself(impl.ExField, 1)
	long.Kids[0].Text = strings.Repeat("t", 1000000)
	named := impl.Exp{Kind: impl.ExRecord, Names: []string{strings.Repeat("n", 1000000)}, Kids: make([]impl.Exp, 1)}
	named.Kids[0] = named
	for i, e := range []impl.Exp{wide, fields, long, named} {
		m := moduleOf("", letDef("x", e), typeDef("T", intT))
		if text := impl.ShowModule(m); len(text) > 300000000 || !strings.HasSuffix(text, "\ntype T = int\n") || !impl.SameModule(m, m) {
			t.Error(i, len(text))
		}
	}
}

func TestListsThatBeginAtOnePlace(t *testing.T) {
	kids, others := []impl.Exp{exInt(1), exInt(2)}, []impl.Exp{exInt(1), exInt(3)}
	types, otherTypes := listT(intT, textT), listT(intT, boolT)
	for _, counts := range [][]int{{1, 2}, {2, 1}, {0, 2}, {2, 0}} {
		a := moduleOf("", letDef("x", exAdd(exCall(kids[:counts[0]]...), exCall(kids[:counts[1]]...))))
		b := moduleOf("", letDef("x", exAdd(exCall(others[:counts[0]]...), exCall(others[:counts[1]]...))))
		c := moduleOf("", typeDef("T", fnT(fnT(types[:counts[0]]...), fnT(types[:counts[1]]...))))
		d := moduleOf("", typeDef("T", fnT(fnT(otherTypes[:counts[0]]...), fnT(otherTypes[:counts[1]]...))))
		if impl.SameModule(a, b) || impl.SameModule(c, d) || !impl.SameModule(a, a) || !impl.SameModule(c, c) {
			t.Error(counts)
		}
	}
}

func TestDeepAndWideModules(t *testing.T) {
	const many = 100000
	deep, wide := exInt(1), exRecord("")
	for range many {
		deep = exField(deep, "a")
		wide.Names = append(wide.Names, "a")
		wide.Kids = append(wide.Kids, exInt(1))
	}
	a, b := moduleOf("", letDef("x", deep)), moduleOf("", letDef("x", wide))
	if got := impl.ShowModule(a); got != "let x = 1"+strings.Repeat(".a", many)+"\n" {
		t.Error("a deep one is shown as", len(got))
	}
	if got := impl.ShowModule(b); got != "let x = {a = 1"+strings.Repeat(", a = 1", many-1)+"}\n" {
		t.Error("a wide one is shown as", len(got))
	}
	if !impl.SameModule(a, a) || impl.SameModule(a, b) || !impl.SameModule(b, b) || impl.SameModule(a, moduleOf("", letDef("x", exField(deep, "a")))) {
		t.Error("SameModule")
	}
	shared := exInt(1)
	for range 60 {
		shared = exAdd(shared, shared)
	}
	if c := moduleOf("", letDef("x", shared)); !impl.SameModule(c, c) || impl.ShowModule(c) == "" {
		t.Error("one list very many times")
	}
}

func TestGreatModulesAreShownWhole(t *testing.T) {
	const many = 200000
	wide, deep := exRecord(""), exInt(7)
	var fields []string
	for i := range many {
		name := "a" + strconv.Itoa(1000000+i)
		wide.Names = append(wide.Names, name)
		wide.Kids = append(wide.Kids, exInt(7))
		fields = append(fields, name+" = 7")
	}
	for range many {
		deep = exCall(exName("f"), exAdd(deep, exInt(1)))
	}
	want := "let a = {" + strings.Join(fields, ", ") + "}\nlet b = " + strings.Repeat("f((", many) + "7" + strings.Repeat(" + 1))", many) + "\n"
	if got := impl.ShowModule(moduleOf("", letDef("a", wide), letDef("b", deep))); got != want {
		t.Error("a wide or a deep one", len(got), len(want))
	}
	// one list many times
	doubled := exRecord("a b", exName("x"), exText("y"))
	for i := range 16 {
		doubled = []impl.Exp{exAdd(doubled, doubled), exIn("q", doubled, doubled), exCall(doubled, doubled), exRecord("c d", doubled, doubled)}[i%4]
	}
	m := moduleOf("", letDef("a", doubled), typeDef("T", intT), letDef("b", doubled))
	if got := impl.ShowModule(m); got != showByWords(m) {
		t.Error("one list many times", len(got))
	}
	// what is not shown need not have an end
	hidden := exInt(3)
	hidden.Kids = []impl.Exp{expWithinItself(impl.ExAdd, 2)}
	more := exField(exName("x"), "y")
	more.Kids = append(more.Kids, expWithinItself(impl.ExAdd, 2))
	if got := impl.ShowModule(moduleOf("", letDef("a", hidden), letDef("b", more), letDef("c", exAdd(expWithinItself(impl.ExAdd, 2), exInt(1))), letDef("d", exInt(4)))); got != "let a = 3\nlet b = x.y\nlet c = \nlet d = 4\n" {
		t.Errorf("with what has no end %q", got)
	}
}

func TestAnyTextIsAnswered(t *testing.T) {
	var texts []string
	for _, s := range []string{"(", ")", "{", "{a=", "let x = ", "let x = (", "fn f(", "type T = ", "->", "import m ", "if ", "a.", "f(", "1+", "|", "type T = {a: ", "type T = () -> ", "\x00", "\"", "\n"} {
		for _, head := range []string{"", "let x = ", "type T = ", "let x: ", "fn f(a: "} {
			for _, times := range []int{1, 2, 50, 3000} {
				texts = append(texts, (head + strings.Repeat(s, times))[:min(impl.MaxSource, len(head)+len(s)*times)])
			}
		}
	}
	for seed := range uint64(3000) {
		var s string
		for _, b := range someBytes(seed, 40) {
			s += formWords[int(b)%len(formWords)] + " "
		}
		texts = append(texts, s, string(someBytes(seed, 30)))
	}
	for _, s := range texts {
		m, line := impl.ParseModule(s)
		if line < 0 || line > 1+strings.Count(s, "\n") || line > 0 && len(m.Imports)+len(m.Defs) > 0 {
			t.Errorf("ParseModule(%.60q) = %+v, %d", s, m, line)
		}
		again, lineAgain := impl.ParseModule(s)
		if line != lineAgain || !reflect.DeepEqual(m, again) {
			t.Errorf("ParseModule(%.60q) answers otherwise the second time", s)
		}
		if line == 0 {
			wantComesBack(t, m)
		}
	}
}

func FuzzModules(f *testing.F) {
	f.Add(eachKindSource, []byte{})
	f.Add("import m let x = (m).v + 1 == f(1, {a = if x then y else z}) type T = () -> int | text", someBytes(1, 100))
	f.Fuzz(func(t *testing.T, src string, bytes []byte) {
		m, line := impl.ParseModule(src)
		if line < 0 || line > 1+strings.Count(src, "\n") {
			t.Fatalf("line %d of %q", line, src)
		}
		if line == 0 {
			wantComesBack(t, m)
			spread := "# \n " + strings.ReplaceAll(src, "\n", " \n\n ")
			if other, line := impl.ParseModule(spread); len(spread) <= impl.MaxSource && (line != 0 || !impl.SameModule(m, other)) {
				t.Fatalf("with other blanks %q is another one", src)
			}
		}
		readAsMade(t, bytes[:min(len(bytes), 1000)])
	})
}
