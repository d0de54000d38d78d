package fact

import (
	"math"
	"slices"
	"strings"
	"testing"
	"unsafe"

	"constable/api"
)

func num(n int) api.Value    { return api.Value{Kind: api.Int, N: n} }
func sym(s string) api.Value { return api.Value{Kind: api.Sym, S: s} }
func str(s string) api.Value { return api.Value{Kind: api.Str, S: s} }

func of(name string, args ...api.Value) api.Fact { return api.Fact{Name: name, Args: args} }

func keptWords() []string {
	return []string{"fact", "rule", "pattern", "not", "and", "or", "before", "once", "always", "since", "drop"}
}

func TestP3_1_NameTakesNames(t *testing.T) {
	for _, s := range []string{
		"a", "z", "aZ_0", "aAzZ09_", "a_", "a__", "a9",
		"event", "persist", "now", "next", "forbid", "is", "has", "guard", "assert", "retract", "constable",
		strings.Repeat("z", api.MaxName),
	} {
		if !Name(s) {
			t.Errorf("Name(%q) = false", s)
		}
	}
}

func TestP3_1_NameRefusesOthers(t *testing.T) {
	for _, s := range []string{
		"", "A", "Z", "_", "_a", "0", "1a", "-", "a b", " a", "a ", "a-b", "a.b", "a(", "a()", "a,b", `"a"`, "'a'",
		"\x00", "a\x00", "a\n", "é", "aé", "ａ", "aａ", "a٣", "\xff", "a\xff", "a`", "a{", "a@", "a[", "a/", "a:",
		strings.Repeat("a", api.MaxName+1), strings.Repeat("a", 100000),
	} {
		if Name(s) {
			t.Errorf("Name(%q) = true", s)
		}
	}
}

// A kept word is none; whatever is a little more, less or other than one is.
func TestP3_1_NameAndKeptWords(t *testing.T) {
	for _, s := range keptWords() {
		if Name(s) {
			t.Errorf("Name(%q) = true", s)
		}
		for _, near := range []string{s + "s", s + "_", s + "0", "x" + s, s[:len(s)-1], s[:1] + strings.ToUpper(s[1:]), s + s} {
			if !Name(near) {
				t.Errorf("Name(%q) = false", near)
			}
		}
	}
}

func TestP3_1_NameOfEachByte(t *testing.T) {
	for c := range 256 {
		b := string([]byte{byte(c)})
		first := c >= 'a' && c <= 'z'
		later := first || c >= 'A' && c <= 'Z' || c >= '0' && c <= '9' || c == '_'
		if Name(b) != first || Name(b+"a") != first {
			t.Errorf("%q at the beginning", b)
		}
		for _, s := range []string{"a" + b, "a" + b + "a", strings.Repeat("a", api.MaxName-1) + b} {
			if Name(s) != later {
				t.Errorf("Name(%q) = %v", s, !later)
			}
		}
	}
}

// written is a right fact and its text.
type written struct {
	fact api.Fact
	text string
}

func rightOnes() []written {
	longName := strings.Repeat("n", api.MaxName)
	quotes := str(strings.Repeat(`"`, api.MaxStr))
	quoted := `"` + strings.Repeat(`\"`, api.MaxStr) + `"`
	return []written{
		{of("a"), "a"},
		{api.Fact{Name: "a", Args: []api.Value{}}, "a"},
		{of("a", num(0)), "a(0)"},
		{of("a", num(-1)), "a(-1)"},
		{of("a", num(1), num(2)), "a(1, 2)"},
		{of("a", num(1), num(1)), "a(1, 1)"},
		{of("aZ_0", sym("b"), str("b"), num(3)), `aZ_0(b, "b", 3)`},
		{of("a", num(api.Least), num(api.Most)), "a(-4611686018427387904, 4611686018427387904)"},
		{of("a", str("")), `a("")`},
		{of("a", str(", ")), `a(", ")`},
		{of("a", str(`b", "c`)), `a("b\", \"c")`},
		{of("a", str("b"), str("c")), `a("b", "c")`},
		{of("a", str(")")), `a(")")`},
		// A symbol may be a kept word, a name may not.
		{of("a", sym("not"), sym("fact"), sym("drop")), "a(not, fact, drop)"},
		{of("a", sym("a")), "a(a)"},
		{of("a", num(1), sym("not"), str(","), num(4), num(5)), `a(1, not, ",", 4, 5)`},
		{of(longName), longName},
		{of(longName, quotes, quotes, quotes, quotes, quotes),
			longName + "(" + strings.Join([]string{quoted, quoted, quoted, quoted, quoted}, ", ") + ")"},
	}
}

func wrongValues() []api.Value {
	return []api.Value{
		{}, {N: 1}, {S: "a"}, {Kind: -1}, {Kind: api.Str + 1}, {Kind: math.MinInt}, {Kind: math.MaxInt},
		num(api.Most + 1), num(api.Least - 1), num(math.MaxInt), num(math.MinInt), {Kind: api.Int, S: "a"},
		sym(""), sym("A"), sym("a b"), sym(strings.Repeat("a", api.MaxName+1)), {Kind: api.Sym, N: 1, S: "a"},
		str("\x1f"), str("\x7f"), str("é"), str(strings.Repeat("x", api.MaxStr+1)), {Kind: api.Str, N: 1},
	}
}

func wrongOnes() []api.Fact {
	l := []api.Fact{
		{}, of("", num(1)), of("A"), of("_a"), of("1"), of("a b"), of("a\x00"), of("é"), of("A", num(1)),
		of(strings.Repeat("a", api.MaxName+1)), of(strings.Repeat("a", 100000)),
		of("a", num(1), num(2), num(3), num(4), num(5), num(6)),
		{Name: "a", Args: make([]api.Value, 6)},
		{Name: "a", Args: slices.Repeat([]api.Value{sym("b")}, 100000)},
		of("A", api.Value{}),
	}
	for _, s := range keptWords() {
		l = append(l, of(s), of(s, num(1)))
	}
	for _, v := range wrongValues() {
		for place := range api.MaxArgs {
			args := slices.Repeat([]api.Value{num(7)}, api.MaxArgs)
			args[place] = v
			l = append(l, api.Fact{Name: "a", Args: args}, api.Fact{Name: "a", Args: args[place : place+1]})
		}
	}
	return l
}

func TestP3_1_RightFactsHaveTheirText(t *testing.T) {
	for _, w := range rightOnes() {
		if e := Check(w.fact); e != api.OK {
			t.Errorf("Check(%+v) = %d", w.fact, e)
		}
		if s, e := Text(w.fact); s != w.text || e != api.OK {
			t.Errorf("Text(%+v) = %q, %d; want %q", w.fact, s, e, w.text)
		}
	}
}

func TestP3_1_WrongFactsHaveNoText(t *testing.T) {
	for _, f := range wrongOnes() {
		if e := Check(f); e != api.ErrArg {
			t.Errorf("Check(%+v) = %d", f, e)
		}
		if s, e := Text(f); s != "" || e != api.ErrArg {
			t.Errorf("Text(%+v) = %q, %d", f, s, e)
		}
	}
}

func TestP3_1_CheckCountsArgs(t *testing.T) {
	for n := range 2 * api.MaxArgs {
		f := of("a", slices.Repeat([]api.Value{num(n)}, n)...)
		if got := Check(f) == api.OK; got != (n <= 5) {
			t.Errorf("%d Args: right is %v", n, got)
		}
	}
}

// rising holds facts, right and wrong ones, by the order of the chapter.
func rising() []api.Fact {
	return []api.Fact{
		{},
		of("", api.Value{Kind: -1}),
		of("", num(1)),
		of("\x00"),
		of("A"),
		of("Z", num(1)),
		of("_"),
		of("a"),
		of("a", api.Value{Kind: math.MinInt, N: math.MaxInt, S: "z"}),
		of("a", api.Value{}),
		of("a", num(math.MinInt)),
		of("a", num(-1)),
		of("a", num(1)),
		of("a", num(2)),
		of("a", num(10)),
		of("a", num(math.MaxInt)),
		of("a", sym("A")),
		of("a", sym("a")),
		of("a", sym("ab")),
		of("a", sym("b")),
		of("a", str("")),
		of("a", str("\xff")),
		of("a", num(0), num(0)),
		of("a", num(0), num(1)),
		of("a", num(1), num(0)),
		of("a", num(1), sym("a")),
		of("a", sym("a"), num(0)),
		of("a", num(0), num(0), num(0)),
		of("a", slices.Repeat([]api.Value{num(9)}, 6)...),
		of("a", slices.Repeat([]api.Value{num(0)}, 7)...),
		of("a\x00"),
		of("aB"),
		of("ab"),
		of("ab", num(1)),
		of("b"),
		of("b", num(1)),
		of("\xff"),
	}
}

// byPlace tells how two places of a rising list compare.
func byPlace(i, k int) int {
	switch {
	case i < k:
		return -1
	case i > k:
		return 1
	}
	return 0
}

func TestP3_1_CompareByNameThenCountThenArgs(t *testing.T) {
	l := rising()
	for i, a := range l {
		for k, b := range l {
			if got := Compare(a, b); got != byPlace(i, k) {
				t.Errorf("Compare(%+v, %+v) = %d; want %d", a, b, got, byPlace(i, k))
			}
		}
	}
}

func TestP3_1_ExampleOfTheChapter(t *testing.T) {
	l := []api.Fact{of("a"), of("a", num(1)), of("b")}
	for i := range len(l) - 1 {
		if Compare(l[i], l[i+1]) != -1 {
			t.Errorf("%+v is not ahead of %+v", l[i], l[i+1])
		}
	}
}

// An order, and 0 just for facts that are alike: each is held against each, through a third.
func TestP3_1_TheOrderIsOne(t *testing.T) {
	var l []api.Fact
	values := []api.Value{{}, num(0), num(1), sym("a"), str("a")}
	for _, name := range []string{"", "a", "ab"} {
		l = append(l, of(name))
		for _, v := range values {
			l = append(l, of(name, v))
			for _, w := range values {
				l = append(l, of(name, v, w))
			}
		}
	}
	for _, a := range l {
		for _, b := range l {
			ab := Compare(a, b)
			alike := a.Name == b.Name && slices.Equal(a.Args, b.Args)
			if ab < -1 || ab > 1 || ab != -Compare(b, a) || (ab == 0) != alike {
				t.Fatalf("Compare(%+v, %+v) = %d", a, b, ab)
			}
			if ab > 0 {
				continue
			}
			for _, c := range l {
				if Compare(b, c) <= 0 && Compare(a, c) > 0 {
					t.Fatalf("%+v, %+v, %+v: no order", a, b, c)
				}
			}
		}
	}
}

func TestP3_1_ListsByTheFirstUnlikePlace(t *testing.T) {
	a, a1, b := of("a"), of("a", num(1)), of("b")
	l := [][]api.Fact{
		nil,
		{{}},
		{{}, {}},
		{{}, b},
		{a},
		{a, {}},
		{a, a},
		{a, a, b},
		{a, a1},
		{a, b},
		{a, b, a},
		{a1},
		{a1, a, a, a},
		{b},
		{b, a},
		{b, b},
	}
	for i, x := range l {
		for k, y := range l {
			if got := Lists(x, y); got != byPlace(i, k) {
				t.Errorf("Lists(%+v, %+v) = %d; want %d", x, y, got, byPlace(i, k))
			}
		}
	}
}

// nil and empty are the same (R2), as a list of facts and as a fact's Args.
func TestP3_1_NilIsEmpty(t *testing.T) {
	bare, empty := api.Fact{Name: "a"}, api.Fact{Name: "a", Args: []api.Value{}}
	if Lists(nil, []api.Fact{}) != 0 || Lists([]api.Fact{}, nil) != 0 {
		t.Error("nil and an empty list are unlike")
	}
	if Compare(bare, empty) != 0 || Compare(empty, bare) != 0 || Lists([]api.Fact{bare}, []api.Fact{empty}) != 0 {
		t.Error("no Args and empty Args are unlike")
	}
}

// What lies behind a list's length counts for nothing (R6) and stays as it was (R2).
func TestP3_1_SpareRoomIsLeftAlone(t *testing.T) {
	room := []api.Value{num(1), {Kind: -1, N: 5, S: "spare"}, num(3)}
	kept := slices.Clone(room)
	f := api.Fact{Name: "a", Args: room[:1]}
	if s, e := Text(f); s != "a(1)" || e != api.OK || Check(f) != api.OK {
		t.Errorf("Text(%+v) = %q, %d", f, s, e)
	}
	if Compare(f, of("a", num(1))) != 0 {
		t.Error("spare room of Args is compared")
	}
	facts := []api.Fact{f, of("b")}
	if Lists(facts[:1], []api.Fact{f}) != 0 {
		t.Error("spare room of a list is compared")
	}
	if !slices.Equal(room, kept) {
		t.Errorf("changed to %+v", room)
	}
}

func TestAnswersShareNoMemory(t *testing.T) {
	name := strings.Repeat("a", api.MaxName)
	if s, _ := Text(of(name)); unsafe.StringData(s) == unsafe.StringData(name) {
		t.Error("Text hands out its argument's memory")
	}
}

// argLists lists every list of at most n of the values.
func argLists(values []api.Value, n int) [][]api.Value {
	all := [][]api.Value{nil}
	longest := all
	for range n {
		var longer [][]api.Value
		for _, l := range longest {
			for _, v := range values {
				longer = append(longer, append(slices.Clone(l), v))
			}
		}
		all = append(all, longer...)
		longest = longer
	}
	return all
}

// The strings hold what stands between and around values, so that texts would meet if they could.
func TestP3_2_UnlikeFactsHaveUnlikeTexts(t *testing.T) {
	values := []api.Value{
		num(1), num(11), num(-1), sym("a"), sym("aa"), sym("not"),
		str(""), str("a"), str("1"), str(`"`), str(`\`), str(`, `), str(`", "`), str(`a", "a`), str(`\", \"`),
		str(")"), str(`")`), str("("), str(" "), str(","), str(`\"`), str(`"\`),
	}
	seen := map[string]api.Fact{}
	for _, args := range argLists(values, 3) {
		for _, name := range []string{"a", "aa", "a1", "a_"} {
			f := api.Fact{Name: name, Args: args}
			s, e := Text(f)
			if e != api.OK {
				t.Fatalf("Text(%+v) = %q, %d", f, s, e)
			}
			if other, twice := seen[s]; twice {
				t.Fatalf("%+v and %+v are both written as %q", f, other, s)
			}
			seen[s] = f
		}
	}
}

// Two strings of any bytes, in all the ways that they may be put into one fact and another.
func FuzzP3_2_TextsOfTwo(f *testing.F) {
	f.Add("a", "b")
	f.Add(`a", "b`, "")
	f.Add(`\`, `"`)
	f.Add("not", "1")
	f.Fuzz(func(t *testing.T, x, y string) {
		l := []api.Fact{
			of(x), of(y), of(x, sym(y)), of(y, sym(x)), of("a", str(x)), of("a", str(y)), of("a", sym(x)), of("a", sym(y)),
			of("a", str(x), str(y)), of("a", str(y), str(x)), of("a", sym(x), str(y)), of("a", str(x+y)), of("a", str(x+`", "`+y)),
		}
		for _, a := range l {
			for _, b := range l {
				s, e := Text(a)
				r, g := Text(b)
				if e != Check(a) || g != Check(b) {
					t.Fatalf("%+v: %d; %+v: %d", a, e, b, g)
				}
				if e == api.OK && g == api.OK && (s == r) != (Compare(a, b) == 0) {
					t.Fatalf("%+v, %+v: %q, %q", a, b, s, r)
				}
			}
		}
	})
}
