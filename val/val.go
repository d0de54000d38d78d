// Package val is layer 1, values: see ../shared/doc/01-val.md.
package val

import (
	"cmp"
	"strconv"
	"strings"

	"constable/api"
)

// longest is the length of a right value's longest text: a string that is all escapes.
const longest = 2 + 2*api.MaxStr

// Check tells ErrArg, unless v is a right value.
func Check(v api.Value) api.Errno {
	right := false
	switch v.Kind {
	case api.Int:
		right = v.S == "" && v.N >= api.Least && v.N <= api.Most
	case api.Sym:
		right = v.N == 0 && isSymbol(v.S)
	case api.Str:
		right = v.N == 0 && isString(v.S)
	}
	if !right {
		return api.ErrArg
	}
	return api.OK
}

// Compare tells -1, 0 or 1: by Kind, then N, then S. It takes wrong values too.
func Compare(a, b api.Value) int {
	return cmp.Or(
		cmp.Compare(a.Kind, b.Kind),
		cmp.Compare(a.N, b.N),
		strings.Compare(a.S, b.S),
	)
}

// Text tells the one text of a right value.
func Text(v api.Value) (string, api.Errno) {
	if e := Check(v); e != api.OK {
		return "", e
	}
	switch v.Kind {
	case api.Int:
		return strconv.Itoa(v.N), api.OK
	case api.Sym:
		return strings.Clone(v.S), api.OK
	default:
		return quote(v.S), api.OK
	}
}

// Parse reads a right value from its text, and no other text.
func Parse(s string) (api.Value, api.Errno) {
	v, ok := read(s)
	if !ok || Check(v) != api.OK {
		return api.Value{}, api.ErrText
	}
	return v, api.OK
}

// read takes s for the kind of text that its first byte begins; the value may still be a wrong one.
func read(s string) (api.Value, bool) {
	// A text that is too long is refused ahead of any work on it.
	if s == "" || len(s) > longest {
		return api.Value{}, false
	}
	switch {
	case s[0] == '"':
		inner, ok := unquote(s)
		return api.Value{Kind: api.Str, S: inner}, ok
	case s[0] == '-' || isDigit(s[0]):
		n, ok := readNumber(s)
		return api.Value{Kind: api.Int, N: n}, ok
	default:
		// A clone, so that a value never holds on to the text it was cut from.
		return api.Value{Kind: api.Sym, S: strings.Clone(s)}, true
	}
}

// readNumber holds s against the number's own text, since strconv also takes a 0 ahead and -0.
func readNumber(s string) (int, bool) {
	n, err := strconv.Atoi(s)
	return n, err == nil && strconv.Itoa(n) == s
}

// quote puts s between two ", with a \ ahead of each " and \ in it.
func quote(s string) string {
	var b strings.Builder
	b.WriteByte('"')
	for i := range len(s) {
		if needsEscape(s[i]) {
			b.WriteByte('\\')
		}
		b.WriteByte(s[i])
	}
	b.WriteByte('"')
	return b.String()
}

// unquote undoes quote; it refuses whatever quote does not write.
func unquote(s string) (string, bool) {
	last := len(s) - 1
	if last < 1 || s[0] != '"' || s[last] != '"' {
		return "", false
	}
	var b strings.Builder
	for i := 1; i < last; i++ {
		if s[i] == '"' {
			return "", false
		}
		if s[i] == '\\' {
			i++
			// At last stands the closing ", which a \ may not take.
			if i == last || !needsEscape(s[i]) {
				return "", false
			}
		}
		b.WriteByte(s[i])
	}
	return b.String(), true
}

func isSymbol(s string) bool {
	if s == "" || len(s) > api.MaxName || !isLower(s[0]) {
		return false
	}
	for i := range len(s) {
		if !isLower(s[i]) && !isUpper(s[i]) && !isDigit(s[i]) && s[i] != '_' {
			return false
		}
	}
	return true
}

func isString(s string) bool {
	if len(s) > api.MaxStr {
		return false
	}
	for i := range len(s) {
		if s[i] < 0x20 || s[i] > 0x7E {
			return false
		}
	}
	return true
}

func needsEscape(c byte) bool { return c == '"' || c == '\\' }

func isLower(c byte) bool { return c >= 'a' && c <= 'z' }

func isUpper(c byte) bool { return c >= 'A' && c <= 'Z' }

func isDigit(c byte) bool { return c >= '0' && c <= '9' }
