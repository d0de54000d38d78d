package lex

import (
	"math/big"
	"regexp"
	"slices"
	"strings"
	"testing"
	"unsafe"

	"constable/api"
)

func token(kind int, text string, line, col int) api.Token {
	return api.Token{Kind: kind, Text: text, At: api.Pos{Line: line, Col: col}}
}

func nameAt(text string, line, col int) api.Token { return token(api.TokName, text, line, col) }
func varAt(text string, line, col int) api.Token  { return token(api.TokVar, text, line, col) }
func numAt(text string, line, col int) api.Token  { return token(api.TokNum, text, line, col) }
func strAt(text string, line, col int) api.Token  { return token(api.TokStr, text, line, col) }
func markAt(text string, line, col int) api.Token { return token(api.TokSign, text, line, col) }

func place(line, col int) api.Pos { return api.Pos{Line: line, Col: col} }

func take(t *testing.T, text string, want ...api.Token) {
	t.Helper()
	if l, at, e := Tokens(text); !slices.Equal(l, want) || at != (api.Pos{}) || e != api.OK {
		t.Errorf("Tokens(%q) = %v, %v, %v; want %v", short(text), l, at, e, want)
	}
}

func refuse(t *testing.T, text string, want api.Pos) {
	t.Helper()
	if l, at, e := Tokens(text); l != nil || at != want || e != api.ErrSign {
		t.Errorf("Tokens(%q) = %v, %v, %v; want ErrSign at %v", short(text), l, at, e, want)
	}
}

func short(text string) string {
	if len(text) > 200 {
		return text[:200] + ".."
	}
	return text
}

// Plain reckoning: each kind's signs by a pattern of its own.

var plainBlank = regexp.MustCompile(`^(?:[ \t\r\n]|%[^\n]*)`)

var plainSigns = [...]*regexp.Regexp{
	api.TokName: longest(`^[a-z][A-Za-z0-9_]*`),
	api.TokVar:  longest(`^[A-Z][A-Za-z0-9_]*`),
	api.TokNum:  longest(`^-?[0-9]+`),
	api.TokStr:  longest(`^"(?:[ !#-\[\]-~]|\\["\\])*"`),
	api.TokSign: longest(`^(?:->|=>|!=|<=|[()\[\],.:/+*=<-])`),
}

func longest(pattern string) *regexp.Regexp {
	r := regexp.MustCompile(pattern)
	r.Longest()
	return r
}

func plainIsRight(kind int, text string) bool {
	switch kind {
	case api.TokName, api.TokVar:
		return len(text) <= 24
	case api.TokNum:
		n, ok := new(big.Int).SetString(text, 10)
		bound := new(big.Int).Lsh(big.NewInt(1), 62)
		return ok && n.CmpAbs(bound) <= 0
	case api.TokStr:
		inner := strings.NewReplacer(`\"`, `"`, `\\`, `\`).Replace(text[1 : len(text)-1])
		return len(inner) <= 60
	default:
		return kind == api.TokSign
	}
}

func plainPlace(text string, at int) api.Pos {
	return place(1+strings.Count(text[:at], "\n"), at-strings.LastIndexByte(text[:at], '\n'))
}

func plainTokens(text string) ([]api.Token, api.Pos, api.Errno) {
	if len(text) > 20000 {
		return nil, api.Pos{}, api.ErrLen
	}
	var l []api.Token
	for at := 0; at < len(text); {
		if n := len(plainBlank.FindString(text[at:])); n > 0 {
			at += n
			continue
		}
		kind, sign := 0, ""
		for k := api.TokName; k <= api.TokSign; k++ {
			if s := plainSigns[k].FindString(text[at:]); len(s) > len(sign) {
				kind, sign = k, s
			}
		}
		if !plainIsRight(kind, sign) {
			return nil, plainPlace(text, at), api.ErrSign
		}
		l = append(l, api.Token{Kind: kind, Text: sign, At: plainPlace(text, at)})
		at += len(sign)
	}
	return l, api.Pos{}, api.OK
}

func holdAgainstPlain(t *testing.T, text string) {
	t.Helper()
	l, at, e := Tokens(text)
	if want, wantAt, wantE := plainTokens(text); !slices.Equal(l, want) || at != wantAt || e != wantE {
		t.Errorf("Tokens(%q) = %v, %v, %v; want %v, %v, %v", short(text), l, at, e, want, wantAt, wantE)
	}
}

// eachText tells all texts of up to so many of the pieces.
func eachText(pieces []string, most int, tell func(string)) {
	var grow func(text string, left int)
	grow = func(text string, left int) {
		tell(text)
		if left == 0 {
			return
		}
		for _, p := range pieces {
			grow(text+p, left-1)
		}
	}
	grow("", most)
}

func bytesOf(s string) []string { return strings.Split(s, "") }

func marks() []string {
	return []string{"(", ")", "[", "]", ",", ".", ":", "/", "+", "*", "-", "=", "!=", "<", "<=", "->", "=>"}
}

func TestP9_1_ExampleOfTheChapter(t *testing.T) {
	take(t, "p(X,-1)", nameAt("p", 1, 1), markAt("(", 1, 2), varAt("X", 1, 3), markAt(",", 1, 4), numAt("-1", 1, 5), markAt(")", 1, 7))
}

func TestP9_1_TextsWithoutSigns(t *testing.T) {
	for _, text := range []string{"", " ", "\t", "\r", "\n", " \t\r\n\r\n", "%", "% a", "%\n", "%\n%", "%%%", " % a ( \" ! \x00 \xff é\n\t% b", "%\r", strings.Repeat("\n", api.MaxText)} {
		take(t, text)
	}
}

func TestP9_1_OrdinaryTexts(t *testing.T) {
	take(t, "fact p/1 event.", nameAt("fact", 1, 1), nameAt("p", 1, 6), markAt("/", 1, 7), numAt("1", 1, 8), nameAt("event", 1, 10), markAt(".", 1, 15))
	take(t, "[X!=\"a b\"]->+r((X*-2)),\n\tdrop 0.",
		markAt("[", 1, 1), varAt("X", 1, 2), markAt("!=", 1, 3), strAt(`"a b"`, 1, 5), markAt("]", 1, 10), markAt("->", 1, 11), markAt("+", 1, 13), nameAt("r", 1, 14),
		markAt("(", 1, 15), markAt("(", 1, 16), varAt("X", 1, 17), markAt("*", 1, 18), numAt("-2", 1, 19), markAt(")", 1, 21), markAt(")", 1, 22), markAt(",", 1, 23),
		nameAt("drop", 2, 2), numAt("0", 2, 7), markAt(".", 2, 8))
	take(t, "not % no sign: ! \"\nAnd", nameAt("not", 1, 1), varAt("And", 2, 1))
}

// Names and variables are of the same bytes, but for the first one; kept words are names here.
func TestP9_1_WordsOfEachByte(t *testing.T) {
	for c := range 256 {
		b := string([]byte{byte(c)})
		inner := c >= 'a' && c <= 'z' || c >= 'A' && c <= 'Z' || c >= '0' && c <= '9' || c == '_'
		if inner {
			take(t, "a"+b, nameAt("a"+b, 1, 1))
			take(t, "Z"+b+"z", varAt("Z"+b+"z", 1, 1))
		} else if l, _, _ := Tokens("a" + b + " "); len(l) > 0 && l[0].Text != "a" {
			t.Errorf("a word has the byte %q", b)
		}
		holdAgainstPlain(t, "z"+b+"0")
		holdAgainstPlain(t, "A"+b+"a")
	}
	for _, word := range []string{"fact", "rule", "pattern", "not", "and", "or", "before", "once", "always", "since", "drop", "event"} {
		take(t, word, nameAt(word, 1, 1))
	}
}

func TestP9_1_WordsOfEachLength(t *testing.T) {
	for n := 1; n <= 60; n++ {
		low, high := "a"+strings.Repeat("Z", n-1), "Z"+strings.Repeat("_", n-1)
		if n > 24 {
			refuse(t, low, place(1, 1))
			refuse(t, "\n "+high+" !", place(2, 2))
			continue
		}
		take(t, low, nameAt(low, 1, 1))
		take(t, "-"+high+".", markAt("-", 1, 1), varAt(high, 1, 2), markAt(".", 1, 2+n))
	}
	refuse(t, strings.Repeat("a", api.MaxText), place(1, 1))
	refuse(t, strings.Repeat("A", api.MaxText), place(1, 1))
}

// Where a byte stands alone, it is a sign, or a blank, or nothing that begins one.
func TestP9_1_EachByteAlone(t *testing.T) {
	for c := range 256 {
		b := string([]byte{byte(c)})
		text := "a\n" + b
		switch {
		case strings.Contains(" \t\r\n%", b):
			take(t, text, nameAt("a", 1, 1))
		case c >= 'a' && c <= 'z':
			take(t, text, nameAt("a", 1, 1), nameAt(b, 2, 1))
		case c >= 'A' && c <= 'Z':
			take(t, text, nameAt("a", 1, 1), varAt(b, 2, 1))
		case c >= '0' && c <= '9':
			take(t, text, nameAt("a", 1, 1), numAt(b, 2, 1))
		case strings.Contains("()[],.:/+*-=<", b):
			take(t, text, nameAt("a", 1, 1), markAt(b, 2, 1))
		default:
			refuse(t, text, place(2, 1))
		}
	}
}

func TestP9_1_BlanksPartSigns(t *testing.T) {
	for _, blank := range []string{" ", "\t", "\r", "%\n", " \r\t "} {
		for _, pair := range [][2]string{{"a", "b"}, {"A", "b"}, {"1", "2"}, {"-", "1"}, {"-", ">"}, {"<", "="}, {"=", ">"}, {"!", "="}} {
			holdAgainstPlain(t, pair[0]+blank+pair[1])
		}
		l, _, e := Tokens("a" + blank + "b" + blank + "-" + blank + "1" + blank + "<" + blank + "=")
		if len(l) != 6 || e != api.OK {
			t.Errorf("blank %q: %v, %v", blank, l, e)
		}
	}
	take(t, "- 1", markAt("-", 1, 1), numAt("1", 1, 3))
	refuse(t, "! =", place(1, 1))
	refuse(t, "- >", place(1, 3))
}

func TestP9_1_Comments(t *testing.T) {
	for c := range 256 {
		b := string([]byte{byte(c)})
		if b == "\n" {
			continue
		}
		take(t, "a%"+b+" b"+b+"\nc", nameAt("a", 1, 1), nameAt("c", 2, 1))
		take(t, "a %"+b, nameAt("a", 1, 1))
	}
	take(t, `"%" % "`+"\n", strAt(`"%"`, 1, 1))
	take(t, "%\r!\nb", nameAt("b", 2, 1))
	refuse(t, "% a\n!", place(2, 1))
}

func TestP9_1_MarksAsLongAsCanBe(t *testing.T) {
	for _, m := range marks() {
		take(t, m, markAt(m, 1, 1))
		take(t, m+" "+m, markAt(m, 1, 1), markAt(m, 1, 2+len(m)))
	}
	take(t, "->-", markAt("->", 1, 1), markAt("-", 1, 3))
	take(t, "-->", markAt("-", 1, 1), markAt("->", 1, 2))
	take(t, "==>", markAt("=", 1, 1), markAt("=>", 1, 2))
	take(t, "<==", markAt("<=", 1, 1), markAt("=", 1, 3))
	take(t, "=<=", markAt("=", 1, 1), markAt("<=", 1, 2))
	take(t, "<->", markAt("<", 1, 1), markAt("->", 1, 2))
	take(t, "=!=", markAt("=", 1, 1), markAt("!=", 1, 2))
	refuse(t, "<=>", place(1, 3))
	refuse(t, "->>", place(1, 3))
	refuse(t, "!", place(1, 1))
	refuse(t, "a!", place(1, 2))
	refuse(t, ">", place(1, 1))
	refuse(t, ">=", place(1, 1))
	refuse(t, "!!=", place(1, 1))
	eachText(bytesOf("!<>=-1 "), 5, func(text string) { holdAgainstPlain(t, text) })
}

// A - is a number's, if digits stand right behind it, whatever stands ahead.
func TestP9_1_NumbersAndTheirSigns(t *testing.T) {
	take(t, "X -1", varAt("X", 1, 1), numAt("-1", 1, 3))
	take(t, "X-1", varAt("X", 1, 1), numAt("-1", 1, 2))
	take(t, "1-2", numAt("1", 1, 1), numAt("-2", 1, 2))
	take(t, "1--2", numAt("1", 1, 1), markAt("-", 1, 2), numAt("-2", 1, 3))
	take(t, "- 1 -", markAt("-", 1, 1), numAt("1", 1, 3), markAt("-", 1, 5))
	take(t, "-a", markAt("-", 1, 1), nameAt("a", 1, 2))
	take(t, "->1", markAt("->", 1, 1), numAt("1", 1, 3))
	take(t, "+1", markAt("+", 1, 1), numAt("1", 1, 2))
	take(t, "1a", numAt("1", 1, 1), nameAt("a", 1, 2))
	take(t, "a-1", nameAt("a", 1, 1), numAt("-1", 1, 2))
	take(t, "1.5", numAt("1", 1, 1), markAt(".", 1, 2), numAt("5", 1, 3))
	take(t, "0x1F", numAt("0", 1, 1), nameAt("x1F", 1, 2))
	take(t, "1e9", numAt("1", 1, 1), nameAt("e9", 1, 2))
	refuse(t, "1_000", place(1, 2))
}

// Numbers are told as they stand, with what stands ahead.
func TestP9_1_NumbersToTheirBounds(t *testing.T) {
	for _, s := range []string{"0", "-0", "00", "-00", "007", "-007", "9", "4611686018427387903", "4611686018427387904", "-4611686018427387904", "04611686018427387904", "-0004611686018427387904"} {
		take(t, s, numAt(s, 1, 1))
		take(t, "\n"+s+"z", numAt(s, 2, 1), nameAt("z", 2, 1+len(s)))
	}
	for _, s := range []string{"4611686018427387905", "-4611686018427387905", "04611686018427387905", "-04611686018427387905", "9223372036854775807", "-9223372036854775808", "9223372036854775808", "18446744073709551615", "18446744073709551616", "18446744073709551617", "36893488147419103232", "99999999999999999999999999", "-100000000000000000000"} {
		refuse(t, s, place(1, 1))
		refuse(t, "a "+s+" !", place(1, 3))
	}
	zeros := strings.Repeat("0", api.MaxText-2)
	take(t, "-"+zeros+"7", numAt("-"+zeros+"7", 1, 1))
	refuse(t, "1"+zeros, place(1, 1))
	refuse(t, strings.Repeat("9", api.MaxText), place(1, 1))
}

func TestP9_1_StringsOfEachByte(t *testing.T) {
	for c := range 256 {
		b := string([]byte{byte(c)})
		text := `x "a` + b + `b"`
		switch {
		case b == `"`:
			refuse(t, text, place(1, 7))
		case b == `\`, c < 0x20, c > 0x7E:
			refuse(t, text, place(1, 3))
		default:
			take(t, text, nameAt("x", 1, 1), strAt(text[2:], 1, 3))
		}
		if text = `"\` + b + `"`; b == `"` || b == `\` {
			take(t, text, strAt(text, 1, 1))
		} else {
			refuse(t, text, place(1, 1))
		}
	}
	take(t, `""`, strAt(`""`, 1, 1))
	take(t, `""""`, strAt(`""`, 1, 1), strAt(`""`, 1, 3))
	take(t, `"\""x`, strAt(`"\""`, 1, 1), nameAt("x", 1, 5))
	take(t, `"\\"x"\\\""`, strAt(`"\\"`, 1, 1), nameAt("x", 1, 5), strAt(`"\\\""`, 1, 6))
	for _, text := range []string{`"`, `"a`, `"\"`, `"\\\"`, `"\`, `"""`, "\"a\n\"", "\"\né\"", `"a\`} {
		holdAgainstPlain(t, text)
		holdAgainstPlain(t, "\n\n a "+text)
	}
	refuse(t, `a "b`, place(1, 3))
	refuse(t, `"""`, place(1, 3))
	refuse(t, "\"a\nb\"", place(1, 1))
}

func TestP9_1_StringsOfEachLength(t *testing.T) {
	for _, piece := range []string{"x", " ", "~", "%", `\"`, `\\`} {
		for n := 55; n <= 65; n++ {
			text := `"` + strings.Repeat(piece, n) + `"`
			if n > 60 {
				refuse(t, "a\n"+text, place(2, 1))
			} else {
				take(t, text, strAt(text, 1, 1))
			}
		}
	}
	refuse(t, `"`+strings.Repeat("x", api.MaxText-2)+`"`, place(1, 1))
	refuse(t, strings.Repeat(`"`, api.MaxText-1), place(1, api.MaxText-1))
	refuse(t, `"`+strings.Repeat(`\"`, 9999), place(1, 1))
}

func TestP9_1_Places(t *testing.T) {
	take(t, "\n\n  a\tb\r c\r\nd%é", nameAt("a", 3, 3), nameAt("b", 3, 5), nameAt("c", 3, 8), nameAt("d", 4, 1))
	take(t, "a\r\rb", nameAt("a", 1, 1), nameAt("b", 1, 4))
	take(t, "a\n\rb", nameAt("a", 1, 1), nameAt("b", 2, 2))
	take(t, strings.Repeat("\n", 9999)+strings.Repeat(" ", 9999)+"a", nameAt("a", 10000, 10000))
	refuse(t, strings.Repeat("\n", 9999)+strings.Repeat(" ", 9999)+"!", place(10000, 10000))
	refuse(t, "%éé\n %é\n  é", place(3, 3))
	refuse(t, "a\vb", place(1, 2))
	refuse(t, "a\u00a0b", place(1, 2))
	refuse(t, "\ufeffa", place(1, 1))
}

func TestP9_1_TheFirstFaultIsTold(t *testing.T) {
	faults := []string{"!", "_", ">", "é", "\x00", `"`, `"\n"`, strings.Repeat("a", 25), strings.Repeat("A", 25), "9999999999999999999", `"` + strings.Repeat("a", 61) + `"`}
	for _, first := range faults {
		for _, second := range faults {
			refuse(t, "a\n b "+first+"\n"+second, place(2, 4))
		}
	}
}

func TestP9_1_TextsThatAreTooLong(t *testing.T) {
	for _, piece := range []string{" ", "a", "%", "!", "\"", "1", "-", "a ", "\n"} {
		long := strings.Repeat(piece, api.MaxText/len(piece))
		holdAgainstPlain(t, long)
		for _, text := range []string{long + " ", long + "!", "!" + long, strings.Repeat(long, 50)} {
			if l, at, e := Tokens(text); l != nil || at != (api.Pos{}) || e != api.ErrLen {
				t.Errorf("%q..: %v, %v, %v", piece, len(l), at, e)
			}
		}
	}
	l, _, e := Tokens(strings.Repeat("(", api.MaxText))
	if len(l) != api.MaxText || e != api.OK {
		t.Error(len(l), e)
	}
}

func TestP9_1_AllShortTexts(t *testing.T) {
	eachText(bytesOf("aX1-\"\\%\n =!"), 5, func(text string) { holdAgainstPlain(t, text) })
	eachText(append(marks(), "a", "X_1", "07", `"\""`, " ", "%\n", "!", ">", "é"), 3, func(text string) { holdAgainstPlain(t, text) })
}

func TestP9_1_JoinOfAny(t *testing.T) {
	for _, c := range []struct {
		texts []string
		want  string
	}{
		{nil, ""}, {[]string{""}, ""}, {[]string{"", ""}, " "}, {[]string{"", "", ""}, "  "}, {[]string{"a"}, "a"}, {[]string{"a", "b"}, "a b"},
		{[]string{" ", "!", ""}, "  ! "}, {[]string{"a b", "\n", "\xff", "é"}, "a b \n \xff é"}, {[]string{"%", "a"}, "% a"},
		{[]string{strings.Repeat("x", 100000), "y"}, strings.Repeat("x", 100000) + " y"},
	} {
		for kind := -1; kind <= api.TokSign+1; kind++ {
			var l []api.Token
			for i, text := range c.texts {
				l = append(l, token(kind, text, -i, 7))
			}
			if s := Join(l); s != c.want {
				t.Errorf("Join(%q) = %q; want %q", c.texts, short(s), short(c.want))
			}
		}
	}
	if Join([]api.Token{}) != "" {
		t.Error("of an empty list")
	}
}

func TestP9_1_JoinReadsTheListAlone(t *testing.T) {
	full := []api.Token{nameAt("a", 1, 1), markAt("(", 2, 3), nameAt("spare", 9, 9), {}}
	before := slices.Clone(full)
	if s := Join(full[:2]); s != "a (" {
		t.Errorf("%q", s)
	}
	if s := Join(full[:0]); s != "" {
		t.Errorf("%q", s)
	}
	if !slices.Equal(full, before) {
		t.Error(full)
	}
}

// share tells whether two texts have a byte of memory in common.
func share(a, b string) bool {
	if a == "" || b == "" {
		return false
	}
	i, j := uintptr(unsafe.Pointer(unsafe.StringData(a))), uintptr(unsafe.Pointer(unsafe.StringData(b)))
	return i < j+uintptr(len(b)) && j < i+uintptr(len(a))
}

func TestP9_1_MemoryIsItsOwn(t *testing.T) {
	text := strings.Clone("name Var 123 \"string\" -> <= long_name other")
	l, _, _ := Tokens(text)
	again, _, _ := Tokens(text)
	for i, x := range l {
		if share(x.Text, text) {
			t.Errorf("%q is cut from the text", x.Text)
		}
		for j, y := range again {
			if share(x.Text, y.Text) || i != j && share(x.Text, l[j].Text) {
				t.Errorf("%q and %q share memory", x.Text, y.Text)
			}
		}
	}
	for _, x := range l[:cap(l)][len(l):] {
		if x != (api.Token{}) {
			t.Error("spare room holds", x)
		}
	}
	one := []api.Token{nameAt(strings.Clone("alone"), 1, 1)}
	if s := Join(one); share(s, one[0].Text) {
		t.Error("what is joined is the sign's own text")
	}
	l[0] = api.Token{}
	if third, _, _ := Tokens(text); !slices.Equal(third, again) {
		t.Error(third)
	}
}

func TestP9_1_TwiceTheSame(t *testing.T) {
	for _, text := range []string{"a b", "a !", "X\n\"", strings.Repeat("a", api.MaxText+1), "p(X,-1)"} {
		l, at, e := Tokens(text)
		Tokens("! other")
		Tokens("b\n\nc")
		if m, atM, eM := Tokens(text); !slices.Equal(l, m) || at != atM || e != eM {
			t.Errorf("Tokens(%q): %v, %v, %v, then %v, %v, %v", short(text), l, at, e, m, atM, eM)
		}
	}
}

func sameSigns(a, b []api.Token) bool {
	return slices.EqualFunc(a, b, func(x, y api.Token) bool { return x.Kind == y.Kind && x.Text == y.Text })
}

func holdJoined(t *testing.T, text string) {
	t.Helper()
	l, _, e := Tokens(text)
	joined := Join(l)
	if e != api.OK || len(joined) > api.MaxText {
		return
	}
	if again, at, e := Tokens(joined); !sameSigns(l, again) || at != (api.Pos{}) || e != api.OK {
		t.Errorf("of %q: %q has %v, %v, %v", short(text), short(joined), again, at, e)
	}
}

func TestP9_2_WhatIsJoinedHasTheSameSigns(t *testing.T) {
	for _, text := range []string{"", "p(X,-1)", "a%b\nc", "X--1", "- 1 -1", "->-=><=!=<=", "1a 007 -0", `"a\"\\ %"b""""`, "rule a 0: p(X), not q(X), [X < 3] -> +r((X + 1)), drop 0."} {
		holdJoined(t, text)
	}
	eachText(bytesOf("aX1-\"\\%\n =<"), 5, func(text string) { holdJoined(t, text) })
	eachText(append(marks(), "a", "X_1", "07", `"\""`, " ", "%\n"), 3, func(text string) { holdJoined(t, text) })
}

// The longest text whose signs, joined, are a text still.
func TestP9_2_OfTheLongest(t *testing.T) {
	text := strings.Repeat("(-1", 4000)
	l, _, e := Tokens(text)
	joined := Join(l)
	if len(l) != 8000 || e != api.OK || len(joined) != 19999 {
		t.Fatal(len(l), e, len(joined))
	}
	if again, _, e := Tokens(joined); !sameSigns(l, again) || e != api.OK {
		t.Error(len(again), e)
	}
}

// Signs of all kinds in all orders stay apart.
func TestP9_2_SignsStayApart(t *testing.T) {
	signs := []api.Token{nameAt("a", 0, 0), nameAt("not", 0, 0), varAt("X", 0, 0), numAt("1", 0, 0), numAt("-1", 0, 0), numAt("00", 0, 0), strAt(`""`, 0, 0), strAt(`"%"`, 0, 0)}
	for _, m := range marks() {
		signs = append(signs, markAt(m, 0, 0))
	}
	for i, a := range signs {
		for j, b := range signs {
			for k, c := range signs {
				if l, _, e := Tokens(Join([]api.Token{a, b, c})); e != api.OK || !sameSigns(l, []api.Token{a, b, c}) {
					t.Fatal(i, j, k, l, e)
				}
			}
		}
	}
}

func FuzzP9_2(f *testing.F) {
	for _, text := range []string{"", "p(X,-1)", "a % b\n\"c\\\"\"->", "<=>", "-0007 Xy_z !=", "\"\\", "é"} {
		f.Add(text)
	}
	f.Fuzz(func(t *testing.T, text string) {
		holdAgainstPlain(t, text)
		holdJoined(t, text)
	})
}
