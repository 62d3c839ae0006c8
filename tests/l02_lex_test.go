package tests

import (
	"regexp"
	"slices"
	"strconv"
	"strings"
	"testing"

	"loop.example/g00276/impl"
)

var languageWords = []string{"import", "type", "let", "fn", "if", "then", "else", "in", "true", "false", "int", "text", "bool", "any"}

var allSigns = []string{"->", "==", "+", "=", ":", ",", ".", "|", "(", ")", "{", "}"}

// What may stand around words without a change, but for the lines that it moves.
var blankTexts = []string{" ", "  ", "\n", " \n ", "\n\n\n", "#\n", "# let \"x\n", "#\x00\t\\!\xff#\n", " # a\n# b\n"}

func tokSign(s string) impl.Token { return impl.Token{Kind: impl.TokSign, Text: s} }
func tokName(s string) impl.Token { return impl.Token{Kind: impl.TokName, Text: s} }
func tokWord(s string) impl.Token { return impl.Token{Kind: impl.TokWord, Text: s} }
func tokText(s string) impl.Token { return impl.Token{Kind: impl.TokText, Text: s} }
func tokNumber(n int) impl.Token  { return impl.Token{Kind: impl.TokNumber, N: n} }

func onLine(line int, list ...impl.Token) []impl.Token {
	for i := range list {
		list[i].Line = line
	}
	return list
}

func wantWords(t *testing.T, src string, want ...impl.Token) {
	t.Helper()
	if got, line := impl.Lex(src); line != 0 || !slices.Equal(got, want) {
		t.Errorf("Lex(%.60q) = %v, %d, want %v, 0", src, got, line, want)
	}
}

func wantNoWord(t *testing.T, src string, want int) {
	t.Helper()
	if got, line := impl.Lex(src); line != want || len(got) != 0 {
		t.Errorf("Lex(%.60q) = %v, %d, want nothing, %d", src, got, line, want)
	}
}

func TestConstantsOfWords(t *testing.T) {
	if impl.TokName != 0 || impl.TokNumber != 1 || impl.TokText != 2 || impl.TokSign != 3 || impl.TokWord != 4 || impl.MaxSource != 3000 {
		t.Error("constants")
	}
}

func TestIsWord(t *testing.T) {
	for _, s := range languageWords {
		if !impl.IsWord(s) {
			t.Error("no word:", s)
		}
		for _, other := range []string{s + "s", s[1:], strings.ToUpper(s), strings.ToUpper(s[:1]) + s[1:], " " + s, s + " ", s + "\x00", s + "1"} {
			if impl.IsWord(other) != slices.Contains(languageWords, other) {
				t.Errorf("IsWord(%q) = %v", other, impl.IsWord(other))
			}
		}
	}
	for _, s := range append([]string{"", "x", "1", "\"", "letin", "for", "\xff"}, allSigns...) {
		if impl.IsWord(s) {
			t.Errorf("a word: %q", s)
		}
	}
}

func TestNameOk(t *testing.T) {
	for _, s := range []string{"a", "z", "A", "Z", "a1", "a0b9", "Int", "INT", "ints", "in1", "truefalse", "abcdefghijkl", "ABCDEFGHIJKL", "a12345678901"} {
		if !impl.NameOk(s) {
			t.Errorf("no name: %q", s)
		}
	}
	for _, s := range []string{"", "1", "1a", "0", "abcdefghijklm", "a123456789012", "a b", " a", "a ", "a\n", "a.b", "a_b", "_a", "a-b", "\"a\"", "h\u00e9", "\u00e9", "a\x00", "\x00", "a\x80", "a\xc1", "a#", strings.Repeat("n", 5000)} {
		if impl.NameOk(s) {
			t.Errorf("a name: %.30q", s)
		}
	}
	for _, s := range languageWords {
		if impl.NameOk(s) {
			t.Error("a word of the language is a name:", s)
		}
	}
}

func TestNameOkOfEachByte(t *testing.T) {
	form := regexp.MustCompile(`^[a-zA-Z][a-zA-Z0-9]*$`)
	for b := range 256 {
		for _, s := range []string{string([]byte{byte(b)}), string([]byte{'x', byte(b)}), string([]byte{byte(b), 'x'}), string([]byte{'x', byte(b), 'x'})} {
			if impl.NameOk(s) != form.MatchString(s) {
				t.Errorf("NameOk(%q) = %v", s, impl.NameOk(s))
			}
		}
	}
}

func TestEachKindOfWord(t *testing.T) {
	wantWords(t, "")
	for _, s := range languageWords {
		wantWords(t, s, onLine(1, tokWord(s))...)
	}
	for _, s := range allSigns {
		wantWords(t, s, onLine(1, tokSign(s))...)
	}
	for _, s := range []string{"a", "Z", "x1", "Let", "ints", "in1", "abcdefghijkl", "a12345678901"} {
		wantWords(t, s, onLine(1, tokName(s))...)
	}
	for _, s := range []string{"", " ", "a b", "#", "let x = 1", "->", "!~", "{}[]^_`@$%&';?<>*/"} {
		wantWords(t, "\""+s+"\"", onLine(1, tokText(s))...)
	}
	for s, n := range map[string]int{"0": 0, "7": 7, "10": 10, "00": 0, "007": 7, "000000000": 0, "000000001": 1, "123456789": 123456789, "999999999": 999999999} {
		wantWords(t, s, onLine(1, tokNumber(n))...)
	}
}

func TestLongestWordEachTime(t *testing.T) {
	for _, c := range []struct {
		src  string
		want []impl.Token
	}{
		{"===", onLine(1, tokSign("=="), tokSign("="))},
		{"====", onLine(1, tokSign("=="), tokSign("=="))},
		{"= =", onLine(1, tokSign("="), tokSign("="))},
		{"=\n=", append(onLine(1, tokSign("=")), onLine(2, tokSign("="))...)},
		{"=->", onLine(1, tokSign("="), tokSign("->"))},
		{"->->", onLine(1, tokSign("->"), tokSign("->"))},
		{"==->=", onLine(1, tokSign("=="), tokSign("->"), tokSign("="))},
		{"++:,.|(){}", onLine(1, tokSign("+"), tokSign("+"), tokSign(":"), tokSign(","), tokSign("."), tokSign("|"), tokSign("("), tokSign(")"), tokSign("{"), tokSign("}"))},
		{"x1y2", onLine(1, tokName("x1y2"))},
		{"12x3", onLine(1, tokNumber(12), tokName("x3"))},
		{"1let", onLine(1, tokNumber(1), tokWord("let"))},
		{"letin", onLine(1, tokName("letin"))},
		{"let in", onLine(1, tokWord("let"), tokWord("in"))},
		{"a.b", onLine(1, tokName("a"), tokSign("."), tokName("b"))},
		{"1.2", onLine(1, tokNumber(1), tokSign("."), tokNumber(2))},
		{"\"a\"\"b\"", onLine(1, tokText("a"), tokText("b"))},
		{"x\"y\"z", onLine(1, tokName("x"), tokText("y"), tokName("z"))},
		{"\"\"\"\"", onLine(1, tokText(""), tokText(""))},
		{"x#y", onLine(1, tokName("x"))},
		{"\"#\"#\"", onLine(1, tokText("#"))},
		{"fn f(a: int|text) -> {x: any}", onLine(1, tokWord("fn"), tokName("f"), tokSign("("), tokName("a"), tokSign(":"), tokWord("int"), tokSign("|"), tokWord("text"), tokSign(")"), tokSign("->"), tokSign("{"), tokName("x"), tokSign(":"), tokWord("any"), tokSign("}"))},
	} {
		wantWords(t, c.src, c.want...)
	}
}

func TestNamesAndNumbersAtTheirBounds(t *testing.T) {
	wantWords(t, "abcdefghijkl", onLine(1, tokName("abcdefghijkl"))...)
	wantNoWord(t, "abcdefghijklm", 1)
	wantNoWord(t, "a123456789012", 1)
	wantNoWord(t, "x\n  abcdefghijklm", 2)
	wantNoWord(t, strings.Repeat("n", impl.MaxSource), 1)
	wantWords(t, "abcdefghijkl abcdefghijkl", onLine(1, tokName("abcdefghijkl"), tokName("abcdefghijkl"))...)
	wantWords(t, "999999999 000000009", onLine(1, tokNumber(999999999), tokNumber(9))...)
	wantNoWord(t, "1234567890", 1)
	wantNoWord(t, "0000000000", 1)
	wantNoWord(t, "0000000001", 1)
	wantNoWord(t, "1\n2\n1234567890", 3)
	wantNoWord(t, strings.Repeat("9", impl.MaxSource), 1)
	wantWords(t, "123456789abcdefghijkl", onLine(1, tokNumber(123456789), tokName("abcdefghijkl"))...)
	wantNoWord(t, "123456789abcdefghijklm", 1)
}

func TestBytesWithinAText(t *testing.T) {
	for b := range 256 {
		inside := "a" + string([]byte{byte(b)}) + "b"
		switch {
		case b == 34:
			wantNoWord(t, "\n\""+inside+"\"", 2)
			wantWords(t, "\""+inside, onLine(1, tokText("a"), tokName("b"))...)
		case b < 32, b == 92, b > 126:
			wantNoWord(t, "\""+inside+"\"", 1)
			wantNoWord(t, "\n\""+inside+"\"", 2)
		default:
			wantWords(t, "\""+inside+"\"", onLine(1, tokText(inside))...)
		}
	}
	long := strings.Repeat("t", impl.MaxSource-2)
	wantWords(t, "\""+long+"\"", onLine(1, tokText(long))...)
}

func TestSourceAtItsBound(t *testing.T) {
	for _, c := range []struct {
		part string
		want int
	}{
		{"x ", 1500},
		{" ", 0},
		{"\n", 0},
		{"+", 3000},
		{"12,", 2000},
		{"#", 0},
		{"#\xff\n", 0},
		{"\"\"\"\"", 1500},
	} {
		src := strings.Repeat(c.part, impl.MaxSource/len(c.part))
		if len(src) != impl.MaxSource {
			t.Fatal("the test's source is of", len(src))
		}
		if list, line := impl.Lex(src); line != 0 || len(list) != c.want {
			t.Errorf("MaxSource bytes of %q: %d words, %d", c.part, len(list), line)
		}
		for _, more := range []string{" ", "\n", "x", "\xff"} {
			wantNoWord(t, src+more, 1)
			wantNoWord(t, "\n\n"+src+more, 1)
		}
	}
	wantNoWord(t, strings.Repeat("\n", impl.MaxSource)+"!", 1)
	wantNoWord(t, strings.Repeat("\n", impl.MaxSource-1)+"!", impl.MaxSource)
	wantNoWord(t, strings.Repeat("\n", 200000), 1)
}

func TestEachByteAlone(t *testing.T) {
	form := regexp.MustCompile(`^[a-zA-Z0-9 \n#+=:,.|(){}]$`)
	for b := range 256 {
		src := string([]byte{byte(b)})
		isNone := !form.MatchString(src)
		if _, line := impl.Lex(src); (line != 0) != isNone || line > 1 {
			t.Errorf("Lex(%q): line %d", src, line)
		}
		if isNone {
			wantNoWord(t, "let x = 1 "+src, 1)
			wantNoWord(t, "let x = 1\n# note\n\n y "+src+" z", 4)
			wantNoWord(t, src+"\n!\n", 1)
		}
	}
}

func TestLineOfTheFirstByteThatBeginsNone(t *testing.T) {
	for _, c := range []struct {
		src  string
		line int
	}{
		{"!", 1},
		{"\n!", 2},
		{"a\nb\nc !\n@", 3},
		{"\t", 1},
		{"x\r\n", 1},
		{"x\n\tx", 2},
		// a text that is not closed counts where it begins
		{"\"", 1},
		{"\"abc", 1},
		{"x\n\"abc", 2},
		{"x\n\"abc\n\"", 2},
		{"\"a\nb\"", 1},
		{"\"\n\"", 1},
		{"\"a\" \"", 1},
		{"\"a # b", 1},
		{"\"\\\"\"", 1},
		// a sign that is only begun
		{"-", 1},
		{"- >", 1},
		{"-\n>", 1},
		{"-1", 1},
		{"--", 1},
		{"-->", 1},
		{"-=", 1},
		{"->-", 1},
		{"a\n->\n-", 3},
		{">", 1},
		{"->>", 1},
		{"=>", 1},
		{"|>\n", 1},
		// lines of notes count, what stands in them does not
		{"#!\n!", 2},
		{"#\"\n#\"\n\"", 3},
		{"# a # b\n\n#c\n?", 4},
		{"x #\n1234567890", 2},
	} {
		wantNoWord(t, c.src, c.line)
		wantNoWord(t, " "+c.src, c.line)
		wantNoWord(t, "#\n"+c.src, c.line+1)
		wantNoWord(t, "\n\nany\n"+c.src, c.line+3)
	}
}

func TestNotes(t *testing.T) {
	wantWords(t, "#")
	wantWords(t, "#\n")
	wantWords(t, "# let x = \"")
	wantWords(t, "\n#\n#")
	for _, note := range []string{"#", "# a note", "##", "#\"", "#\x00\x01\t\r\x7f\x80\xff", "#\\!@", "# \u00e9"} {
		for _, end := range []string{"", "\n", "\n\n", "\n "} {
			wantWords(t, "x"+note+end, onLine(1, tokName("x"))...)
			wantWords(t, "x "+note+end, onLine(1, tokName("x"))...)
			wantWords(t, note+"\nx"+note+end, onLine(2, tokName("x"))...)
			wantWords(t, "1\n"+note+"\n\n(\n"+note+end, append(onLine(1, tokNumber(1)), onLine(4, tokSign("("))...)...)
		}
	}
}

func TestBlanksAroundWordsChangeNothing(t *testing.T) {
	texts := append([]string{"x", "abcdefghijkl", "a1", "0", "999999999", "\"\"", "\"a b\"", "\"#\""}, languageWords...)
	texts = append(texts, allSigns...)
	var want []impl.Token
	for _, s := range texts {
		list, line := impl.Lex(s)
		if line != 0 || len(list) != 1 {
			t.Fatal(s, list, line)
		}
		want = append(want, list[0])
	}
	for i := range texts {
		for j := range texts {
			for k, gap := range blankTexts {
				ahead := blankTexts[(i+k)%len(blankTexts)]
				behind := blankTexts[(j+k)%len(blankTexts)]
				wantWords(t, texts[i]+gap+texts[j], want[i], moved(want[j], gap))
				wantWords(t, ahead+texts[i]+gap+texts[j]+behind, moved(want[i], ahead), moved(want[j], ahead+gap))
			}
		}
	}
}

func moved(word impl.Token, gap string) impl.Token {
	word.Line += strings.Count(gap, "\n")
	return word
}

func TestBlanksWithinAModuleChangeNothing(t *testing.T) {
	src := "import a type T={x:int,y:T|text}fn f(n:int):(int)->any=if n==1 then{a=1,b=\"# no\"}else a.f(n+1)"
	plain, line := impl.Lex(src)
	if line != 0 || len(plain) != 53 {
		t.Fatal(len(plain), line)
	}
	for _, gap := range blankTexts {
		var out strings.Builder
		want := slices.Clone(plain)
		for i, w := range plain {
			out.WriteString(gap)
			want[i].Line = 1 + strings.Count(gap, "\n")*(i+1)
			out.WriteString(sourceOf(w))
		}
		wantWords(t, out.String(), want...)
		wantWords(t, out.String()+gap, want...)
	}
}

func sourceOf(w impl.Token) string {
	switch w.Kind {
	case impl.TokNumber:
		return strconv.Itoa(w.N)
	case impl.TokText:
		return "\"" + w.Text + "\""
	}
	return w.Text
}

var wordForms = []struct {
	kind int
	form *regexp.Regexp
	most int
}{
	{-1, regexp.MustCompile(`^(?:[ \n]|#[^\n]*)`), impl.MaxSource},
	{impl.TokName, regexp.MustCompile(`^[a-zA-Z][a-zA-Z0-9]*`), 12},
	{impl.TokNumber, regexp.MustCompile(`^[0-9]+`), 9},
	{impl.TokText, regexp.MustCompile(`^"[ !#-\[\]-~]*"`), impl.MaxSource},
	{impl.TokSign, regexp.MustCompile(`^(?:->|==|[+=:,.|(){}])`), 2},
}

// lexByForms is the document's chapter told once more, by regular expressions.
func lexByForms(src string) ([]impl.Token, int) {
	if len(src) > impl.MaxSource {
		return nil, 1
	}
	var list []impl.Token
	line := 1
next:
	for src != "" {
		for _, f := range wordForms {
			found := f.form.FindString(src)
			if found == "" || len(found) > f.most {
				continue
			}
			if f.kind >= 0 {
				list = append(list, tokenOf(f.kind, found, line))
			}
			line += strings.Count(found, "\n")
			src = src[len(found):]
			continue next
		}
		return nil, line
	}
	return list, 0
}

func tokenOf(kind int, found string, line int) impl.Token {
	w := impl.Token{Kind: kind, Text: found, Line: line}
	switch {
	case kind == impl.TokNumber:
		w.Text = ""
		w.N, _ = strconv.Atoi(found)
	case kind == impl.TokText:
		w.Text = found[1 : len(found)-1]
	case kind == impl.TokName && slices.Contains(languageWords, found):
		w.Kind = impl.TokWord
	}
	return w
}

func sameAsByForms(t *testing.T, src string) {
	t.Helper()
	got, line := impl.Lex(src)
	want, wantLine := lexByForms(src)
	if line != wantLine || !slices.Equal(got, want) {
		t.Fatalf("Lex(%q) = %v, %d, want %v, %d", src, got, line, want, wantLine)
	}
}

func TestShortTextsAsTheirFormsTell(t *testing.T) {
	for _, s := range shortTexts("in7 \n\"#-=>.\\", 5) {
		sameAsByForms(t, s)
	}
	for _, s := range shortTexts("x\x00\x1f!\x7f\x80\xff\"#\t\n", 4) {
		sameAsByForms(t, s)
	}
}

func TestWordsAreNewMemory(t *testing.T) {
	src := strings.Clone("let name = \"text\" -> 12")
	list, _ := impl.Lex(src)
	again, _ := impl.Lex(src)
	for _, w := range list {
		if within(w.Text, src) {
			t.Errorf("%q shares memory with the source", w.Text)
		}
	}
	list[0].Text = "changed"
	if again[0].Text != "let" {
		t.Error("two answers share one list")
	}
}

func FuzzLex(f *testing.F) {
	for _, s := range []string{"", "let x1: int|text = \"a b\" # c\n->==+= 12{}", "-", "\"a\nb\"", "abcdefghijklm 1234567890", "x#\xff\n\t"} {
		f.Add(s)
	}
	f.Fuzz(func(t *testing.T, src string) {
		sameAsByForms(t, src)
		if impl.IsWord(src) != slices.Contains(languageWords, src) {
			t.Error("IsWord", src)
		}
		list, line := impl.Lex(src)
		isName := line == 0 && len(list) == 1 && list[0].Kind == impl.TokName && list[0].Text == src
		if impl.NameOk(src) != isName {
			t.Error("NameOk", src)
		}
	})
}
