package impl

import (
	"strconv"
	"strings"
)

const (
	MaxList  = 200
	MaxBytes = 10000000
)

const (
	maxNum      = 999999999
	maxNumBytes = 5
	digestStart = 14695981039346656037
	digestTimes = 1099511628211
	keyDigits   = 16
)

func PutNum(n int) string {
	if n < 0 || n > maxNum {
		return ""
	}
	var out []byte
	for n >= 128 {
		out = append(out, byte(n%128+128))
		n /= 128
	}
	return string(append(out, byte(n)))
}

func numSize(n int) int {
	size := 1
	for n >= 128 {
		n /= 128
		size++
	}
	return size
}

func textSize(s string) int {
	return numSize(len(s)) + len(s)
}

func GetNum(s string, i int) (int, int) {
	if i < 0 {
		return 0, -1
	}
	n, unit := 0, 1
	for at := i; at < len(s) && at-i < maxNumBytes; at++ {
		b := int(s[at])
		n += b % 128 * unit
		unit *= 128
		if b >= 128 {
			continue
		}
		// A last byte of 0 adds nothing: PutNum would have ended ahead of it.
		needless := b == 0 && at > i
		if needless || n > maxNum {
			return 0, -1
		}
		return n, at + 1
	}
	return 0, -1
}

func PutText(s string) string {
	if len(s) > MaxBytes {
		return ""
	}
	return join(PutNum(len(s)), s)
}

func GetText(s string, i int) (string, int) {
	size, from := GetNum(s, i)
	if from < 0 || size > MaxBytes || size > len(s)-from {
		return "", -1
	}
	// A mere piece of s would share its memory, and keep all of it.
	return strings.Clone(s[from : from+size]), from + size
}

func PutTexts(list []string) string {
	if len(list) > MaxList {
		return ""
	}
	parts := []string{PutNum(len(list))}
	for _, s := range list {
		if len(s) > MaxBytes {
			return ""
		}
		parts = append(parts, PutNum(len(s)), s)
	}
	return join(parts...)
}

func GetTexts(s string) ([]string, bool) {
	count, at := GetNum(s, 0)
	if at < 0 || count > MaxList {
		return nil, false
	}
	var list []string
	for len(list) < count {
		var text string
		text, at = GetText(s, at)
		if at < 0 {
			return nil, false
		}
		list = append(list, text)
	}
	if at != len(s) {
		return nil, false
	}
	return list, true
}

func Digest(s string) uint64 {
	sum := uint64(digestStart)
	for i := 0; i < len(s); i++ {
		sum = (sum ^ uint64(s[i])) * digestTimes
	}
	return sum
}

func Key(s string) string {
	digits := strconv.FormatUint(Digest(s), 16)
	return join(strings.Repeat("0", keyDigits-len(digits)), digits)
}

func DecText(n int) string {
	return strconv.Itoa(n)
}

// join asks for its room once, so that great parts are copied only once.
func join(parts ...string) string {
	size := 0
	for _, part := range parts {
		size += len(part)
	}
	var out strings.Builder
	out.Grow(size)
	for _, part := range parts {
		out.WriteString(part)
	}
	return out.String()
}
