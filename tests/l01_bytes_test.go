package tests

import (
	"hash/fnv"
	"math"
	"slices"
	"strconv"
	"strings"
	"testing"
	"unsafe"

	"loop.example/g00276/impl"
)

const greatestNum = 999999999

// Bytes at which a number, a size or a count turns from one case into another.
const edgeBytes = "\x00\x01\x02\x7f\x80\x81\xff"

func shortTexts(alphabet string, most int) []string {
	all := []string{""}
	last := all
	for range most {
		var next []string
		for _, s := range last {
			for i := range len(alphabet) {
				next = append(next, s+alphabet[i:i+1])
			}
		}
		all = append(all, next...)
		last = next
	}
	return all
}

func wantNum(t *testing.T, s string, i, n, behind int) {
	t.Helper()
	if gotN, gotAt := impl.GetNum(s, i); gotN != n || gotAt != behind {
		t.Errorf("GetNum(%q, %d) = %d, %d, want %d, %d", s, i, gotN, gotAt, n, behind)
	}
}

func wantText(t *testing.T, s string, i int, text string, behind int) {
	t.Helper()
	if got, at := impl.GetText(s, i); got != text || at != behind {
		t.Errorf("GetText at %d of %d bytes = %d bytes, %d, want %d bytes, %d", i, len(s), len(got), at, len(text), behind)
	}
}

func wantNoTexts(t *testing.T, what, s string) {
	t.Helper()
	if list, ok := impl.GetTexts(s); ok || len(list) != 0 {
		t.Errorf("GetTexts, %s: %d texts, %v, want none, false", what, len(list), ok)
	}
}

func TestLimitsOfBytes(t *testing.T) {
	if impl.MaxList != 200 || impl.MaxBytes != 10000000 {
		t.Error("limits", impl.MaxList, impl.MaxBytes)
	}
}

func TestPutNumBytes(t *testing.T) {
	for _, c := range []struct {
		n    int
		want string
	}{
		{0, "\x00"},
		{1, "\x01"},
		{127, "\x7f"},
		{128, "\x80\x01"},
		{300, "\xac\x02"},
		{16383, "\xff\x7f"},
		{16384, "\x80\x80\x01"},
		{2097151, "\xff\xff\x7f"},
		{2097152, "\x80\x80\x80\x01"},
		{268435455, "\xff\xff\xff\x7f"},
		{268435456, "\x80\x80\x80\x80\x01"},
		{greatestNum, "\xff\x93\xeb\xdc\x03"},
		{greatestNum + 1, ""},
		{math.MaxInt, ""},
		{-1, ""},
		{-128, ""},
		{math.MinInt, ""},
	} {
		if got := impl.PutNum(c.n); got != c.want {
			t.Errorf("PutNum(%d) = %q, want %q", c.n, got, c.want)
		}
	}
}

func TestNumComesBack(t *testing.T) {
	nums := []int{greatestNum - 1, greatestNum}
	for n := range 40000 {
		nums = append(nums, n)
	}
	for unit := 1; unit <= greatestNum; unit *= 2 {
		nums = append(nums, unit-1, unit, unit+1)
	}
	for _, n := range nums {
		s := impl.PutNum(n)
		wantNum(t, s, 0, n, len(s))
		wantNum(t, "ab\x80"+s+"\x80c", 3, n, 3+len(s))
		for cut := range len(s) {
			wantNum(t, s[:cut], 0, 0, -1)
		}
	}
}

func TestNumOfNoNumber(t *testing.T) {
	for _, s := range []string{
		"",
		"\x80",
		"\xff\xff",
		"\xff\xff\xff\xff\xff",
		"\xff\xff\xff\xff\xff\x01",
		// more bytes than are needed
		"\x80\x00",
		"\x81\x00",
		"\xff\x80\x00",
		"\x80\x80\x80\x80\x00",
		"\x80\x80\x80\x80\x80\x00",
		"\xff\x93\xeb\xdc\x83\x00",
		// more than the greatest
		"\x80\x94\xeb\xdc\x03",
		"\xff\x93\xeb\xdc\x04",
		"\xff\xff\xff\xff\x7f",
		"\x80\x80\x80\x80\x80\x01",
		"\x81\x80\x80\x80\x80\x80\x80\x80\x80\x02",
		strings.Repeat("\x80", 5000) + "\x01",
	} {
		wantNum(t, s, 0, 0, -1)
		wantNum(t, "\x05"+s, 1, 0, -1)
		wantNum(t, s+"\x80", len(s), 0, -1)
	}
}

func TestPlacesOutsideOfATextHoldNothing(t *testing.T) {
	for _, s := range []string{"", "\x00", "\x01\x01\x01"} {
		for _, i := range []int{-1, -2, math.MinInt, len(s), len(s) + 1, math.MaxInt - 1, math.MaxInt} {
			wantNum(t, s, i, 0, -1)
			wantText(t, s, i, "", -1)
		}
	}
}

func TestNoOtherBytesAreANumbersOrATexts(t *testing.T) {
	for _, s := range shortTexts(edgeBytes, 5) {
		for i := range len(s) {
			if n, at := impl.GetNum(s, i); at == -1 {
				if n != 0 {
					t.Fatalf("GetNum(%q, %d) = %d beside -1", s, i, n)
				}
			} else if at <= i || at > len(s) || impl.PutNum(n) != s[i:at] {
				t.Fatalf("GetNum(%q, %d) = %d, %d, but its bytes are %q", s, i, n, at, impl.PutNum(n))
			}
			if text, at := impl.GetText(s, i); at == -1 {
				if text != "" {
					t.Fatalf("GetText(%q, %d) = %q beside -1", s, i, text)
				}
			} else if at <= i || at > len(s) || impl.PutText(text) != s[i:at] {
				t.Fatalf("GetText(%q, %d) = %q, %d, but its bytes are %q", s, i, text, at, impl.PutText(text))
			}
		}
	}
}

func TestTextComesBack(t *testing.T) {
	for _, c := range []struct{ text, head string }{
		{"", "\x00"},
		{"ab", "\x02"},
		{"\x00\x80\xff\"\n", "\x05"},
		{"h\u00e9", "\x03"},
		{strings.Repeat("x", 127), "\x7f"},
		{strings.Repeat("x", 128), "\x80\x01"},
		{strings.Repeat("y", impl.MaxBytes-1), "\xff\xac\xe2\x04"},
		{strings.Repeat("z", impl.MaxBytes), "\x80\xad\xe2\x04"},
	} {
		s := impl.PutText(c.text)
		if s != c.head+c.text {
			t.Errorf("PutText of %d bytes: %d bytes, want %q ahead", len(c.text), len(s), c.head)
		}
		wantText(t, s, 0, c.text, len(s))
		wantText(t, "\x09a"+s+"b", 2, c.text, 2+len(s))
		for _, cut := range []int{0, len(c.head) - 1, len(s) - 1} {
			wantText(t, s[:cut], 0, "", -1)
		}
	}
}

func TestTextOfNoText(t *testing.T) {
	long := strings.Repeat("z", impl.MaxBytes+1)
	if s := impl.PutText(long); s != "" {
		t.Error("PutText of more than MaxBytes:", len(s), "bytes")
	}
	wantText(t, impl.PutNum(len(long))+long, 0, "", -1)
	for _, s := range []string{
		"",
		"\x01",
		"\x03ab",
		"\x80",
		"\x80\x00",
		"\x82\x00ab",
		"\xff\x93\xeb\xdc\x03ab",
		"\x80\x94\xeb\xdc\x03ab",
		"\xff\xff\xff\xff\xff\xff\xff\xff\x7fab",
	} {
		wantText(t, s, 0, "", -1)
		wantText(t, "\x00"+s, 1, "", -1)
	}
}

func TestPutTextsBytes(t *testing.T) {
	for _, c := range []struct {
		list []string
		want string
	}{
		{nil, "\x00"},
		{[]string{}, "\x00"},
		{[]string{""}, "\x01\x00"},
		{[]string{"a", ""}, "\x02\x01a\x00"},
		{[]string{"", "a"}, "\x02\x00\x01a"},
		{[]string{"\x00", "\x80\xff"}, "\x02\x01\x00\x02\x80\xff"},
		{make([]string, 128), "\x80\x01" + strings.Repeat("\x00", 128)},
		{make([]string, impl.MaxList), "\xc8\x01" + strings.Repeat("\x00", impl.MaxList)},
		{make([]string, impl.MaxList+1), ""},
	} {
		if got := impl.PutTexts(c.list); got != c.want {
			t.Errorf("PutTexts of %d texts = %q, want %q", len(c.list), got, c.want)
		}
	}
}

func TestTextsComeBack(t *testing.T) {
	full := make([]string, impl.MaxList)
	for i := range full {
		full[i] = strings.Repeat("t", i)
	}
	for _, list := range [][]string{
		nil,
		{""},
		{"a"},
		{"", "", ""},
		{"one", "", "two\n", "\x00\x01\x80\xff"},
		{"a", "a"},
		{impl.PutTexts([]string{"in", "side"}), "out"},
		{strings.Repeat("w", impl.MaxBytes), "x"},
		full,
	} {
		s := impl.PutTexts(list)
		got, ok := impl.GetTexts(s)
		if !ok || !slices.Equal(got, list) {
			t.Errorf("GetTexts of PutTexts of %d texts: %d texts, %v", len(list), len(got), ok)
		}
		wantNoTexts(t, "a byte behind the end", s+"\x00")
		wantNoTexts(t, "a text behind the end", s+"\x01a")
		wantNoTexts(t, "cut by one byte", s[:len(s)-1])
	}
}

func TestTextsOfNoTexts(t *testing.T) {
	long := strings.Repeat("z", impl.MaxBytes+1)
	for _, list := range [][]string{{long}, {"a", long}, {long, "a"}} {
		if s := impl.PutTexts(list); s != "" {
			t.Error("PutTexts with a text of more than MaxBytes:", len(s), "bytes")
		}
	}
	wantNoTexts(t, "a text of more than MaxBytes", "\x01"+impl.PutNum(len(long))+long)
	wantNoTexts(t, "more than MaxList texts", impl.PutNum(impl.MaxList+1)+strings.Repeat("\x00", impl.MaxList+1))
	wantNoTexts(t, "a count beyond all", "\xff\x93\xeb\xdc\x03\x00\x00")
	for _, s := range []string{"", "\x01", "\x80", "\x80\x00", "\x81\x00\x00", "\x00x", "\x00\x00", "\x02\x01a", "\x02\x01a\x01", "\x01\x80\x00", "\x01\x81\x00a", "\x02\x81\x00a\x00", "\x01\x01ab"} {
		wantNoTexts(t, strconv.Quote(s), s)
	}
}

func TestNoOtherBytesAreAListsOfTexts(t *testing.T) {
	found := 0
	for _, s := range shortTexts(edgeBytes, 6) {
		list, ok := impl.GetTexts(s)
		if !ok && len(list) != 0 {
			t.Fatalf("GetTexts(%q) tells %q beside false", s, list)
		}
		if ok && impl.PutTexts(list) != s {
			t.Fatalf("GetTexts(%q) = %q, whose bytes are %q", s, list, impl.PutTexts(list))
		}
		if ok {
			found++
		}
	}
	if found == 0 {
		t.Error("no list at all")
	}
}

func TestDigestAndKey(t *testing.T) {
	texts := append(shortTexts(edgeBytes, 3), "a", "foobar", "farm gate", strings.Repeat("\xff", 100000))
	for _, s := range texts {
		sum := fnv.New64a()
		sum.Write([]byte(s))
		if got := impl.Digest(s); got != sum.Sum64() {
			t.Errorf("Digest(%.20q) = %d, want %d", s, got, sum.Sum64())
		}
		hex := strconv.FormatUint(sum.Sum64(), 16)
		if got, want := impl.Key(s), strings.Repeat("0", 16-len(hex))+hex; got != want {
			t.Errorf("Key(%.20q) = %q, want %q", s, got, want)
		}
	}
	if impl.Key("") != "cbf29ce484222325" || impl.Key("foobar") != "85944171f73967e8" {
		t.Error("keys", impl.Key(""), impl.Key("foobar"))
	}
}

func TestKeyKeepsNoughtsAhead(t *testing.T) {
	least := "ffffffffffffffff"
	for n := range 20000 {
		s := strconv.Itoa(n)
		key := impl.Key(s)
		if back, err := strconv.ParseUint(key, 16, 64); len(key) != 16 || err != nil || back != impl.Digest(s) {
			t.Fatal(s, key)
		}
		least = min(least, key)
	}
	if least[:2] != "00" {
		t.Error("no key with noughts ahead was tried:", least)
	}
}

func TestDecText(t *testing.T) {
	for _, c := range []struct {
		n    int
		want string
	}{
		{0, "0"},
		{7, "7"},
		{-7, "-7"},
		{10, "10"},
		{-100, "-100"},
		{1000000000, "1000000000"},
		{math.MaxInt, "9223372036854775807"},
		{math.MinInt, "-9223372036854775808"},
	} {
		if got := impl.DecText(c.n); got != c.want {
			t.Errorf("DecText(%d) = %q, want %q", c.n, got, c.want)
		}
	}
}

func TestPutTextsChangesNothing(t *testing.T) {
	whole := []string{"a", "", "b", "spare", "room"}
	kept := slices.Clone(whole)
	list := whole[:3]
	if impl.PutTexts(list) != "\x03\x01a\x00\x01b" || impl.PutTexts(list) != "\x03\x01a\x00\x01b" {
		t.Error("not told alike twice")
	}
	if !slices.Equal(whole, kept) {
		t.Errorf("the list or the room behind it was changed: %q", whole)
	}
}

func within(part, whole string) bool {
	if part == "" || whole == "" {
		return false
	}
	first := uintptr(unsafe.Pointer(unsafe.StringData(whole)))
	at := uintptr(unsafe.Pointer(unsafe.StringData(part)))
	return at >= first && at < first+uintptr(len(whole))
}

func TestTextsAreNewMemory(t *testing.T) {
	s := impl.PutTexts([]string{"first text", "second text"})
	if text, _ := impl.GetText(s, 1); text != "first text" || within(text, s) {
		t.Error("GetText's answer shares memory with its argument")
	}
	list, _ := impl.GetTexts(s)
	again, _ := impl.GetTexts(s)
	for _, text := range list {
		if within(text, s) {
			t.Error("GetTexts' answer shares memory with its argument")
		}
	}
	list[0] = "changed"
	if again[0] != "first text" {
		t.Error("two answers share one list")
	}
}

func FuzzBytes(f *testing.F) {
	for _, s := range []string{"", "\x00", "\x80\x00", "\x02\x01a\x00", "\xff\x93\xeb\xdc\x03", "\x03ab"} {
		f.Add(s, 0)
		f.Add("x"+s, 1)
		f.Add(s, -1)
		f.Add(s, len(s)+1)
	}
	f.Fuzz(func(t *testing.T, s string, i int) {
		if n, at := impl.GetNum(s, i); at != -1 && impl.PutNum(n) != s[i:at] {
			t.Error("number", n, at)
		}
		if text, at := impl.GetText(s, i); at != -1 && impl.PutText(text) != s[i:at] {
			t.Error("text", text, at)
		}
		if list, ok := impl.GetTexts(s); ok && impl.PutTexts(list) != s {
			t.Error("texts", list)
		}
		if n, at := impl.GetNum(impl.PutNum(i), 0); i >= 0 && i <= greatestNum && (n != i || at < 1) {
			t.Error("number put", i, n, at)
		}
		if text, at := impl.GetText(impl.PutText(s), 0); text != s || at < 1 {
			t.Error("text put", s)
		}
		if len(impl.Key(s)) != 16 || impl.DecText(i) != strconv.Itoa(i) {
			t.Error("key", impl.Key(s), impl.DecText(i))
		}
	})
}
