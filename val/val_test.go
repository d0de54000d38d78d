package val

import (
	"math"
	"strings"
	"testing"
	"unsafe"

	"constable/api"
)

func num(n int) api.Value    { return api.Value{Kind: api.Int, N: n} }
func sym(s string) api.Value { return api.Value{Kind: api.Sym, S: s} }
func str(s string) api.Value { return api.Value{Kind: api.Str, S: s} }

// written is a right value and its text.
type written struct {
	value api.Value
	text  string
}

func rightOnes() []written {
	return []written{
		{num(0), "0"},
		{num(1), "1"},
		{num(10), "10"},
		{num(-1), "-1"},
		{num(-120), "-120"},
		{num(api.Most), "4611686018427387904"},
		{num(api.Most - 1), "4611686018427387903"},
		{num(api.Least), "-4611686018427387904"},
		{num(api.Least + 1), "-4611686018427387903"},
		{sym("a"), "a"},
		{sym("z"), "z"},
		{sym("aAzZ09_"), "aAzZ09_"},
		{sym("a_"), "a_"},
		{sym("rule"), "rule"},
		{sym("drop"), "drop"},
		{sym(strings.Repeat("z", api.MaxName)), strings.Repeat("z", api.MaxName)},
		{str(""), `""`},
		{str(" "), `" "`},
		{str("~"), `"~"`},
		{str("a"), `"a"`},
		{str("1"), `"1"`},
		{str(`"`), `"\""`},
		{str(`\`), `"\\"`},
		{str(`\"`), `"\\\""`},
		{str(`"\`), `"\"\\"`},
		{str(`a"b`), `"a\"b"`},
		{str(`\n`), `"\\n"`},
		{str("'%(),"), `"'%(),"`},
		{str(strings.Repeat("x", api.MaxStr)), `"` + strings.Repeat("x", api.MaxStr) + `"`},
		{str(strings.Repeat(`"`, api.MaxStr)), `"` + strings.Repeat(`\"`, api.MaxStr) + `"`},
		{str(strings.Repeat(`\`, api.MaxStr)), `"` + strings.Repeat(`\\`, api.MaxStr) + `"`},
	}
}

func wrongOnes() []api.Value {
	return []api.Value{
		{},
		{S: "a"},
		{N: 1},
		{Kind: -1},
		{Kind: api.Str + 1},
		{Kind: math.MaxInt},
		{Kind: math.MinInt},
		{Kind: api.Int, S: "a"},
		{Kind: api.Int, N: 1, S: "1"},
		num(api.Most + 1),
		num(api.Least - 1),
		num(math.MaxInt),
		num(math.MinInt),
		sym(""),
		{Kind: api.Sym, N: 1, S: "a"},
		{Kind: api.Sym, N: -1, S: "a"},
		sym("A"),
		sym("_a"),
		sym("1"),
		sym("a b"),
		sym("a-"),
		sym(`"a"`),
		sym("é"),
		sym("aé"),
		sym("a\x00"),
		sym(strings.Repeat("a", api.MaxName+1)),
		sym(strings.Repeat("a", 100000)),
		{Kind: api.Str, N: 1},
		{Kind: api.Str, N: -1, S: "a"},
		str("\x1f"),
		str("\x7f"),
		str("a\nb"),
		str("é"),
		str("\xff"),
		str(strings.Repeat("x", api.MaxStr+1)),
		str(strings.Repeat("x", 100000)),
	}
}

func TestP1_1_CheckTakesRightValues(t *testing.T) {
	for _, w := range rightOnes() {
		if e := Check(w.value); e != api.OK {
			t.Errorf("Check(%+v) = %d", w.value, e)
		}
	}
}

func TestP1_1_WrongValuesHaveNoText(t *testing.T) {
	for _, v := range wrongOnes() {
		if e := Check(v); e != api.ErrArg {
			t.Errorf("Check(%+v) = %d", v, e)
		}
		if s, e := Text(v); s != "" || e != api.ErrArg {
			t.Errorf("Text(%+v) = %q, %d", v, s, e)
		}
	}
}

func TestP1_1_CheckOfEachByte(t *testing.T) {
	for c := range 256 {
		b := string([]byte{byte(c)})
		first := c >= 'a' && c <= 'z'
		later := first || c >= 'A' && c <= 'Z' || c >= '0' && c <= '9' || c == '_'
		inString := c >= 0x20 && c <= 0x7E
		for _, one := range []struct {
			value api.Value
			right bool
		}{
			{sym(b), first},
			{sym("a" + b), later},
			{sym("a" + b + "a"), later},
			{str(b), inString},
			{str("a" + b), inString},
			{str(b + "a"), inString},
		} {
			if got := Check(one.value) == api.OK; got != one.right {
				t.Errorf("Check(%+v): right is %v", one.value, got)
			}
		}
	}
}

func TestP1_1_TextAndParse(t *testing.T) {
	for _, w := range rightOnes() {
		if s, e := Text(w.value); s != w.text || e != api.OK {
			t.Errorf("Text(%+v) = %q, %d; want %q", w.value, s, e, w.text)
		}
		if v, e := Parse(w.text); v != w.value || e != api.OK {
			t.Errorf("Parse(%q) = %+v, %d; want %+v", w.text, v, e, w.value)
		}
	}
}

func TestP1_1_ParseRefusesOtherTexts(t *testing.T) {
	for _, s := range []string{
		"", " ", "\x00", "\n",
		"-", "--1", "-0", "00", "01", "-01", "+0", "+1", "1_0", "0x1", "0b1", "1.0", "1e3", "1a", "1 ", " 1", "1\n", "-a", "٣",
		"4611686018427387905", "-4611686018427387905", "9223372036854775807", "-9223372036854775808",
		"9223372036854775808", "18446744073709551616", strings.Repeat("9", 30), "-" + strings.Repeat("9", 30),
		strings.Repeat("9", 100000),
		"A", "_", "_a", "a b", "a-b", "a ", " a", "a\x00", "a.", "é", "aé", "'a'",
		strings.Repeat("a", api.MaxName+1), strings.Repeat("a", 100000),
		`"`, `"a`, `a"`, `"a"b`, `"a"b"`, `"""`, `"a""`, `""a"`, `" "" "`,
		`"\"`, `"\`, `"\\\"`, `"\\\`, `"\a"`, `"\n"`, `"\x41"`, `"\ "`, `"a"` + "\n", ` "a"`, `"a" `,
		"\"\t\"", "\"\x1f\"", "\"\x7f\"", "\"\n\"", "\"é\"", "\"\xff\"", "\"\\\x7f\"",
		"`a`",
		`"` + strings.Repeat("x", api.MaxStr+1) + `"`,
		`"` + strings.Repeat(`\"`, api.MaxStr+1) + `"`,
		`"` + strings.Repeat("x", 100000) + `"`,
	} {
		if v, e := Parse(s); v != (api.Value{}) || e != api.ErrText {
			t.Errorf("Parse(%q) = %+v, %d", s, v, e)
		}
	}
}

// rising holds values of each kind, right and wrong ones, by the order of the chapter.
func rising() []api.Value {
	return []api.Value{
		{Kind: math.MinInt, N: math.MaxInt, S: "z"},
		{Kind: -1},
		{},
		{S: "a"},
		num(math.MinInt),
		num(api.Least),
		num(-10),
		num(-9),
		num(0),
		{Kind: api.Int, S: "a"},
		num(9),
		num(10),
		num(api.Most),
		num(math.MaxInt),
		{Kind: api.Sym, N: -1, S: "z"},
		sym(""),
		sym("\x00"),
		sym("A"),
		sym("Z"),
		sym("_"),
		sym("a"),
		sym("a\x00"),
		sym("a0"),
		sym("aB"),
		sym("aa"),
		sym("ab"),
		sym("b"),
		{Kind: api.Sym, N: 1},
		str(""),
		str(" "),
		str("A"),
		str("~"),
		str("é"),
		str("\xff"),
		str("\xff\x00"),
		{Kind: api.Str, N: 1},
		{Kind: math.MaxInt, N: math.MinInt},
	}
}

func TestP1_1_CompareByKindThenNumberThenBytes(t *testing.T) {
	l := rising()
	for i, a := range l {
		for k, b := range l {
			want := 0
			switch {
			case i < k:
				want = -1
			case i > k:
				want = 1
			}
			if got := Compare(a, b); got != want {
				t.Errorf("Compare(%+v, %+v) = %d; want %d", a, b, got, want)
			}
		}
	}
}

// manyTexts lists every text of at most n bytes out of the alphabet.
func manyTexts(alphabet string, n int) []string {
	all := []string{""}
	longest := all
	for range n {
		var longer []string
		for _, s := range longest {
			for i := range len(alphabet) {
				longer = append(longer, s+alphabet[i:i+1])
			}
		}
		all = append(all, longer...)
		longest = longer
	}
	return all
}

// What is read is written as the very text that it was read from: each value has one text alone.
func TestP1_2_WhatIsReadIsWrittenSo(t *testing.T) {
	seen := map[api.Value]string{}
	for _, s := range manyTexts("\"\\-+ 019aZ_~\x1f", 5) {
		v, e := Parse(s)
		if e != api.OK {
			if v != (api.Value{}) || e != api.ErrText {
				t.Fatalf("Parse(%q) = %+v, %d", s, v, e)
			}
			continue
		}
		if Check(v) != api.OK {
			t.Fatalf("Parse(%q) = %+v, which is wrong", s, v)
		}
		if back, f := Text(v); back != s || f != api.OK {
			t.Fatalf("Text(Parse(%q)) = %q, %d", s, back, f)
		}
		if other, twice := seen[v]; twice {
			t.Fatalf("%q and %q are both read as %+v", s, other, v)
		}
		seen[v] = s
	}
}

func TestP1_2_WhatIsWrittenIsRead(t *testing.T) {
	var values []api.Value
	for _, s := range manyTexts("\"\\ aZ0_~", 5) {
		values = append(values, sym(s), str(s))
	}
	for n := -1100; n <= 1100; n++ {
		values = append(values, num(n), num(api.Most+n), num(api.Least+n))
	}
	for shift := range 63 {
		values = append(values, num(1<<shift), num(-1<<shift), num(1<<shift-1))
	}
	seen := map[string]api.Value{}
	for _, v := range values {
		s, e := Text(v)
		if e != Check(v) {
			t.Fatalf("Text(%+v) = %q, %d; Check %d", v, s, e, Check(v))
		}
		if e != api.OK {
			continue
		}
		if back, f := Parse(s); back != v || f != api.OK {
			t.Fatalf("Parse(%q) = %+v, %d; want %+v", s, back, f, v)
		}
		if other, twice := seen[s]; twice && other != v {
			t.Fatalf("%+v and %+v are both written as %q", v, other, s)
		}
		seen[s] = v
	}
}

func TestP1_2_TheOrderIsOne(t *testing.T) {
	var l []api.Value
	for _, kind := range []int{math.MinInt, -1, 0, api.Int, api.Sym, api.Str, 4, math.MaxInt} {
		for _, n := range []int{math.MinInt, -1, 0, 1, math.MaxInt} {
			for _, s := range []string{"", "\x00", "a", "ab", "b", "\xff"} {
				l = append(l, api.Value{Kind: kind, N: n, S: s})
			}
		}
	}
	for _, a := range l {
		for _, b := range l {
			ab := Compare(a, b)
			if ab < -1 || ab > 1 || ab != -Compare(b, a) || (ab == 0) != (a == b) {
				t.Fatalf("Compare(%+v, %+v) = %d", a, b, ab)
			}
			if ab > 0 {
				continue
			}
			for _, c := range l {
				if Compare(b, c) <= 0 && Compare(a, c) > 0 {
					t.Fatalf("%+v, %+v, %+v: no order", a, b, c)
				}
			}
		}
	}
}

// What is answered is new memory (R2), a symbol's text too, which is the same bytes on both sides.
func TestAnswersShareNoMemory(t *testing.T) {
	s := strings.Repeat("a", api.MaxName)
	if v, _ := Parse(s); unsafe.StringData(v.S) == unsafe.StringData(s) {
		t.Error("Parse hands out its argument's memory")
	}
	if text, _ := Text(sym(s)); unsafe.StringData(text) == unsafe.StringData(s) {
		t.Error("Text hands out its argument's memory")
	}
}

func FuzzP1_2_Parse(f *testing.F) {
	for _, w := range rightOnes() {
		f.Add(w.text)
	}
	f.Fuzz(func(t *testing.T, s string) {
		v, e := Parse(s)
		if e != api.OK {
			if v != (api.Value{}) || e != api.ErrText {
				t.Fatalf("Parse(%q) = %+v, %d", s, v, e)
			}
			return
		}
		if back, g := Text(v); back != s || g != api.OK {
			t.Fatalf("Text(Parse(%q)) = %q, %d", s, back, g)
		}
	})
}
