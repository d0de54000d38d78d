package subst

import (
	"fmt"
	"math"
	"reflect"
	"slices"
	"strconv"
	"strings"
	"testing"
	"unsafe"

	"constable/api"
)

// limit is how many Binds the document allows, told here by itself.
const limit = 100

func num(n int) api.Value    { return api.Value{Kind: api.Int, N: n} }
func sym(s string) api.Value { return api.Value{Kind: api.Sym, S: s} }
func str(s string) api.Value { return api.Value{Kind: api.Str, S: s} }

func bind(name string, v api.Value) api.Bind { return api.Bind{Var: name, Val: v} }

func list(binds ...api.Bind) []api.Bind { return binds }

// rising holds variables by their order: a beginning ahead of the whole, digits, A to Z, _ and a to z one behind the other.
func rising() []string {
	return []string{"A", "A0", "A9", "AA", "AAA", "AZ", "A_", "Aa", "Az", "B", "Fact", "NOT", "X1_y", "Z", strings.Repeat("Z", api.MaxName)}
}

// unlike holds right values that are unlike each other, in one field alone where that may be.
func unlike() []api.Value {
	return []api.Value{num(0), num(1), num(-1), num(api.Most), num(api.Least), sym("a"), sym("b"), sym("ab"), str("a"), str(""), str("0"), str(strings.Repeat("~", api.MaxStr))}
}

func wrongVars() []string {
	return []string{"", "x", "xX", "_", "_X", "1", "1X", " X", "X ", "X-", "X.", "X\x00", "\x00", "É", "XÉ", "\xff", "X\xff", "not", strings.Repeat("X", api.MaxName+1), strings.Repeat("X", 100000)}
}

func wrongValues() []api.Value {
	return []api.Value{{}, {Kind: -1}, {Kind: api.Str + 1}, num(api.Most + 1), num(api.Least - 1), num(math.MinInt), {Kind: api.Int, S: "a"}, sym(""), sym("A"), {Kind: api.Sym, N: 1, S: "a"}, sym(strings.Repeat("a", api.MaxName+1)), str("\n"), {Kind: api.Str, N: 1}, str(strings.Repeat("a", api.MaxStr+1))}
}

// wrongBinds holds Binds of which the variable alone, or the value alone, is wrong, or both are.
func wrongBinds() []api.Bind {
	l := list(api.Bind{})
	for _, name := range wrongVars() {
		l = append(l, bind(name, num(1)))
	}
	for _, v := range wrongValues() {
		l = append(l, bind("M", v))
	}
	return l
}

// wrongLists holds lists that are refused, each for one reason alone.
func wrongLists() [][]api.Bind {
	all := [][]api.Bind{
		list(bind("B", num(1)), bind("A", num(1))),
		list(bind("A", num(1)), bind("A", num(1))),
		list(bind("A", num(1)), bind("A", num(2))),
		list(bind("A", num(1)), bind("B", num(1)), bind("A", num(1))),
		list(bind("AA", num(1)), bind("A", num(1))),
		many(0, limit+1),
		many(0, 1000),
	}
	for _, b := range wrongBinds() {
		all = append(all, list(b), list(bind("A", num(1)), b), list(b, bind("Z", num(1))))
	}
	return all
}

// many tells the variables with the numbers from one up to, not with, another: each has its number as its value.
func many(from, to int) []api.Bind {
	var l []api.Bind
	for i := from; i < to; i++ {
		l = append(l, bind("V"+strconv.Itoa(1000000+i), num(i)))
	}
	return l
}

func refusePut(t *testing.T, l []api.Bind, name string, v api.Value) {
	t.Helper()
	if got, ok := Put(l, name, v); got != nil || ok {
		t.Errorf("Put(%+v, %q, %+v) = %+v, %v", l, name, v, got, ok)
	}
}

func refuseBoth(t *testing.T, a, b []api.Bind) {
	t.Helper()
	if got, ok := Both(a, b); got != nil || ok {
		t.Errorf("Both(%+v, %+v) = %+v, %v", a, b, got, ok)
	}
	if got, ok := Both(b, a); got != nil || ok {
		t.Errorf("Both(%+v, %+v) = %+v, %v", b, a, got, ok)
	}
}

func TestP5_1_ExampleOfTheChapter(t *testing.T) {
	refusePut(t, list(bind("X", num(1))), "X", num(2))
	refuseBoth(t, list(bind("X", num(1))), list(bind("X", num(2))))
}

func TestP5_1_VarOfEachByte(t *testing.T) {
	for c := range 256 {
		b := string([]byte{byte(c)})
		first := c >= 'A' && c <= 'Z'
		later := first || c >= 'a' && c <= 'z' || c >= '0' && c <= '9' || c == '_'
		for s, want := range map[string]bool{
			b:                                      first,
			b + "X":                                first,
			b + "x_0":                              first,
			"X" + b:                                later,
			"X" + b + "X":                          later,
			strings.Repeat("Z", api.MaxName-1) + b: later,
		} {
			if got := Var(s); got != want {
				t.Errorf("Var(%q) = %v", s, got)
			}
		}
	}
}

func TestP5_1_VarOfEachLength(t *testing.T) {
	for n := range 2 * api.MaxName {
		for _, s := range []string{strings.Repeat("X", n), "X" + strings.Repeat("x", max(n-1, 0))} {
			if want := len(s) >= 1 && len(s) <= api.MaxName; Var(s) != want {
				t.Errorf("Var(%q) = %v", s, !want)
			}
		}
	}
}

func TestP5_1_VarTakesAndRefuses(t *testing.T) {
	for _, s := range rising() {
		if !Var(s) {
			t.Errorf("Var(%q) = false", s)
		}
	}
	for _, s := range wrongVars() {
		if Var(s) {
			t.Errorf("Var(%q) = true", s)
		}
	}
}

func TestP5_1_CheckTakesRightLists(t *testing.T) {
	var l []api.Bind
	for i, name := range rising() {
		l = append(l, bind(name, unlike()[i%len(unlike())]))
	}
	for i := range l {
		for k := i; k <= len(l); k++ {
			if e := Check(l[i:k]); e != api.OK {
				t.Errorf("Check(%+v) = %d", l[i:k], e)
			}
		}
	}
	for _, l := range [][]api.Bind{nil, {}, many(0, limit-1), many(0, limit)} {
		if e := Check(l); e != api.OK {
			t.Errorf("Check(%+v) = %d", l, e)
		}
	}
}

func TestP5_1_CheckRefusesWrongLists(t *testing.T) {
	for _, l := range wrongLists() {
		if e := Check(l); e != api.ErrArg {
			t.Errorf("Check(%+v) = %d", l, e)
		}
	}
}

// The order is that of the variables: what their values are does not count.
func TestP5_1_CheckOfEachPair(t *testing.T) {
	for i, a := range rising() {
		for k, b := range rising() {
			want := api.ErrArg
			if i < k {
				want = api.OK
			}
			for _, v := range []api.Value{num(-1), num(1), sym("a")} {
				if l := list(bind(a, num(0)), bind(b, v)); Check(l) != want {
					t.Errorf("Check(%+v) is not %d", l, want)
				}
			}
		}
	}
}

// One wrong Bind, one turned or doubled place makes a whole list wrong, wherever it stands.
func TestP5_1_CheckOfEachPlace(t *testing.T) {
	refuse := func(l []api.Bind) {
		t.Helper()
		if e := Check(l); e != api.ErrArg {
			t.Errorf("Check(%+v) = %d", l, e)
		}
	}
	for i := range limit {
		wrong := many(0, limit)
		wrong[i].Val = api.Value{}
		refuse(wrong)
		wrong = many(0, limit)
		wrong[i].Var += "-"
		refuse(wrong)
		if i == 0 {
			continue
		}
		wrong = many(0, limit)
		wrong[i], wrong[i-1] = wrong[i-1], wrong[i]
		refuse(wrong)
		wrong = many(0, limit)
		wrong[i] = wrong[i-1]
		refuse(wrong)
	}
}

func TestP5_1_GetTellsTheFirst(t *testing.T) {
	l := list(
		bind("B", num(1)), bind("A", sym("a")), bind("B", num(2)), bind("A", num(3)), bind("", str("none")),
		bind("low", num(math.MaxInt)), bind("Zero", api.Value{}), bind("Zero", num(1)), bind("AA", api.Value{Kind: 9, N: -9, S: "\xff"}),
		bind("", num(4)),
	)
	for name, want := range map[string]api.Value{
		"B": num(1), "A": sym("a"), "": str("none"), "low": num(math.MaxInt), "Zero": {}, "AA": {Kind: 9, N: -9, S: "\xff"},
	} {
		if v, ok := Get(l, name); v != want || !ok {
			t.Errorf("Get(%q) = %+v, %v", name, v, ok)
		}
	}
	for _, name := range []string{"C", "a", "b", "AAA", "Lo", "lo", "Z", "\x00", strings.Repeat("B", 100000)} {
		if v, ok := Get(l, name); v != (api.Value{}) || ok {
			t.Errorf("Get(%q) = %+v, %v", name, v, ok)
		}
	}
}

func TestP5_1_GetOfNone(t *testing.T) {
	for _, l := range [][]api.Bind{nil, {}, list(bind("A", num(1)), bind("", num(2)))[:0]} {
		for _, name := range []string{"", "A", "a"} {
			if v, ok := Get(l, name); v != (api.Value{}) || ok {
				t.Errorf("Get(%+v, %q) = %+v, %v", l, name, v, ok)
			}
		}
	}
}

func TestP5_1_GetOfEachPlace(t *testing.T) {
	for _, l := range [][]api.Bind{many(0, limit), many(0, 5000)} {
		slices.Reverse(l)
		for _, b := range l {
			if v, ok := Get(l, b.Var); v != b.Val || !ok {
				t.Fatalf("Get(%q) = %+v, %v", b.Var, v, ok)
			}
		}
	}
}

// model tells which value each of some variables has another way: 0 for none, or the value's number.
type model [4]int

// modelNames are in an order that is neither that of their lengths nor that of their letters alone.
func modelNames() []string { return []string{"A", "AB", "A_", "B"} }

func (m model) list() []api.Bind {
	var l []api.Bind
	for i, name := range modelNames() {
		if m[i] > 0 {
			l = append(l, bind(name, modelValues()[m[i]]))
		}
	}
	return l
}

// modelValues are unlike in one field alone, one behind the other.
func modelValues() []api.Value { return []api.Value{{}, num(1), sym("a"), str("a")} }

// models lists each model whose variables have one of so many of the values, or none.
func models(values int) []model {
	all := []model{{}}
	for i := range len(model{}) {
		for _, m := range all {
			for n := 1; n <= values; n++ {
				m[i] = n
				all = append(all, m)
			}
		}
	}
	return all
}

// with tells m with what n has too, if no variable has two values.
func (m model) with(n model) (model, bool) {
	for i := range m {
		if m[i] > 0 && n[i] > 0 && m[i] != n[i] {
			return model{}, false
		}
		m[i] = max(m[i], n[i])
	}
	return m, true
}

// Each value of each variable into each list: at its ends and between, there already, and there with another value.
func TestP5_1_PutIntoEachList(t *testing.T) {
	for _, m := range models(3) {
		for i, name := range modelNames() {
			for n := 1; n <= 3; n++ {
				var one model
				one[i] = n
				want, is := m.with(one)
				got, ok := Put(m.list(), name, modelValues()[n])
				if ok != is || !reflect.DeepEqual(got, want.list()) {
					t.Fatalf("Put(%+v, %q, %+v) = %+v, %v", m.list(), name, modelValues()[n], got, ok)
				}
			}
		}
	}
}

func TestP5_1_BothOfAllPairs(t *testing.T) {
	for _, m := range models(3) {
		for _, n := range models(3) {
			want, is := m.with(n)
			got, ok := Both(m.list(), n.list())
			if ok != is || !reflect.DeepEqual(got, want.list()) {
				t.Fatalf("Both(%+v, %+v) = %+v, %v", m.list(), n.list(), got, ok)
			}
		}
	}
}

func TestP5_1_PutOfUnlikeValues(t *testing.T) {
	for _, v := range unlike() {
		for _, w := range unlike() {
			if v != w {
				refusePut(t, list(bind("A", num(1)), bind("X", v)), "X", w)
				refuseBoth(t, list(bind("X", v)), list(bind("A", num(1)), bind("X", w)))
				continue
			}
			l := list(bind("A", num(1)), bind("X", v))
			if got, ok := Put(l, "X", w); !ok || !reflect.DeepEqual(got, l) {
				t.Errorf("Put(%+v, X, %+v) = %+v, %v", l, w, got, ok)
			}
		}
	}
}

func TestP5_1_PutRefusesWrongArguments(t *testing.T) {
	for _, l := range wrongLists() {
		refusePut(t, l, "C", num(1))
		refusePut(t, l, "A", num(1))
		refusePut(t, l, "", api.Value{})
	}
	for _, l := range [][]api.Bind{nil, {}, list(bind("A", num(1))), many(0, limit-1), many(0, limit)} {
		for _, b := range wrongBinds() {
			refusePut(t, l, b.Var, b.Val)
			refusePut(t, append(slices.Clone(l), b), b.Var, b.Val)
		}
	}
	// The value of what the list has already is asked too.
	for _, v := range wrongValues() {
		refusePut(t, list(bind("A", num(1))), "A", v)
	}
}

func TestP5_1_BothRefusesWrongLists(t *testing.T) {
	for _, l := range wrongLists() {
		for _, right := range [][]api.Bind{nil, {}, list(bind("A", num(1))), list(bind("C", num(1)), bind("D", num(1)))} {
			refuseBoth(t, l, right)
		}
		refuseBoth(t, l, l)
	}
}

func TestP5_1_PutAtTheLimit(t *testing.T) {
	for _, name := range []string{"A", "V1000050a", "W"} {
		got, ok := Put(many(0, limit-1), name, num(1))
		if !ok || len(got) != limit || Check(got) != api.OK {
			t.Errorf("%q as the last that may be: %d Binds, %v", name, len(got), ok)
		}
		if v, is := Get(got, name); v != num(1) || !is {
			t.Errorf("%q: %+v, %v", name, v, is)
		}
		refusePut(t, many(0, limit), name, num(1))
	}
	full := many(0, limit)
	for _, b := range full {
		if got, ok := Put(full, b.Var, b.Val); !ok || !reflect.DeepEqual(got, full) {
			t.Errorf("%+v, which is there: %d Binds, %v", b, len(got), ok)
		}
		refusePut(t, full, b.Var, num(-1))
	}
}

func TestP5_1_BothAtTheLimit(t *testing.T) {
	full := many(0, limit)
	for from := 1; from <= limit; from++ {
		for to := from; to <= limit; to++ {
			// Two lists that meet in what lies between: as many as may be in all, then one more.
			if got, ok := Both(many(0, to), many(from, limit)); !ok || !reflect.DeepEqual(got, full) {
				t.Fatalf("up to %d, and from %d: %d Binds, %v", to, from, len(got), ok)
			}
			if got, ok := Both(many(0, to), many(from, limit+1)); ok || got != nil {
				t.Fatalf("up to %d, and from %d, one too many: %d Binds, %v", to, from, len(got), ok)
			}
		}
	}
	if got, ok := Both(full, full); !ok || !reflect.DeepEqual(got, full) {
		t.Errorf("twice the same: %d Binds, %v", len(got), ok)
	}
	refuseBoth(t, many(0, limit), many(limit, 2*limit))
	refuseBoth(t, many(0, limit), list(bind("A", num(1))))
}

// One variable of two values among many, wherever it stands.
func TestP5_1_BothOfTwoValuesAtEachPlace(t *testing.T) {
	for i := range limit {
		other := many(0, limit)
		other[i].Val = sym("a")
		refuseBoth(t, many(0, limit), other)
		refuseBoth(t, many(0, limit), other[i:i+1])
	}
}

// nil and empty are the same (R2): the answers are alike in every way.
func TestP5_1_NilIsEmpty(t *testing.T) {
	one := list(bind("A", num(1)))
	answers := func(none []api.Bind) [][]api.Bind {
		var all [][]api.Bind
		keep := func(l []api.Bind, ok bool) {
			if !ok {
				t.Error("refused")
			}
			all = append(all, l)
		}
		keep(Put(none, "A", num(1)))
		keep(Both(none, one))
		keep(Both(one, none))
		keep(Both(none, none))
		keep(Both(none, nil))
		keep(Both(nil, none))
		return all
	}
	want := answers(nil)
	if !reflect.DeepEqual(want, [][]api.Bind{one, one, one, nil, nil, nil}) {
		t.Errorf("%#v", want)
	}
	for _, none := range [][]api.Bind{{}, make([]api.Bind, 0, 3), many(0, 3)[:0]} {
		if got := answers(none); !reflect.DeepEqual(got, want) {
			t.Errorf("%#v; want %#v", got, want)
		}
	}
}

// call is one of the calls that answer a list, at arguments of its own.
type call struct {
	name   string
	args   [][]api.Bind
	answer []api.Bind
}

// roomy tells a list in memory of its own, with spare room that holds Binds too.
func roomy(binds ...api.Bind) []api.Bind {
	var l []api.Bind
	for _, b := range append(slices.Clone(binds), bind("Spare", str("spare")), bind("A", num(77))) {
		b.Var, b.Val.S = strings.Clone(b.Var), strings.Clone(b.Val.S)
		l = append(l, b)
	}
	return l[:len(binds)]
}

// calls makes each call; one that changes its arguments or their spare room is told.
func calls(t *testing.T) []call {
	var all []call
	add := func(name string, do func(args ...[]api.Bind) ([]api.Bind, bool), args ...[]api.Bind) {
		before := fmt.Sprint(whole(args))
		answer, ok := do(args...)
		if after := fmt.Sprint(whole(args)); after != before {
			t.Errorf("%s changed %s to %s", name, before, after)
		}
		if ok {
			all = append(all, call{name, args, answer})
		}
	}
	put := func(args ...[]api.Bind) ([]api.Bind, bool) { return Put(args[0], args[1][0].Var, args[1][0].Val) }
	both := func(args ...[]api.Bind) ([]api.Bind, bool) { return Both(args[0], args[1]) }
	get := func(args ...[]api.Bind) ([]api.Bind, bool) {
		v, ok := Get(args[0], args[1][0].Var)
		return list(bind("", v)), ok
	}
	l := func() []api.Bind {
		return roomy(bind("Beta", str("xyz")), bind("Delta", sym("pqr")), bind("Eta", num(5)))
	}
	for _, b := range list(bind("Alpha", str("uvw")), bind("Beta", str("xyz")), bind("Beta", str("other")), bind("Delta", sym("pqr")), bind("Zeta", sym("uvw"))) {
		add("Put "+b.Var, put, l(), roomy(b))
		add("Get "+b.Var, get, l(), roomy(b))
		add("Put into none "+b.Var, put, roomy(), roomy(b))
		add("Both with "+b.Var, both, l(), roomy(b))
		add("Both behind "+b.Var, both, roomy(b), l())
	}
	same := l()
	add("Both of one and itself", both, same, same)
	add("Both of a and none", both, l(), roomy())
	add("Both of none and b", both, roomy(), l())
	add("Both of two", both, l(), roomy(bind("Alpha", str("uvw")), bind("Delta", sym("pqr")), bind("Gamma", num(1))))
	add("Both of a list that does not rise", both, roomy(bind("B", num(1)), bind("A", num(1))), l())
	add("Get from a list that does not rise", get, roomy(bind("B", num(1)), bind("A", str("x")), bind("A", str("y"))), roomy(bind("A", num(1))))
	return all
}

// whole tells the lists with their spare room.
func whole(lists [][]api.Bind) [][]api.Bind {
	var all [][]api.Bind
	for _, l := range lists {
		all = append(all, l[:cap(l)])
	}
	return all
}

// bounds is where a piece of memory begins and ends.
type bounds struct{ from, to uintptr }

func pieceOf[T any](first *T, count int) []bounds {
	var one T
	if count == 0 {
		return nil
	}
	from := uintptr(unsafe.Pointer(first))
	return []bounds{{from, from + uintptr(count)*unsafe.Sizeof(one)}}
}

// pieces tells all the memory of a list: its own and that of the strings, spare room too.
func pieces(l []api.Bind) []bounds {
	all := pieceOf(unsafe.SliceData(l), cap(l))
	for _, b := range l[:cap(l)] {
		all = append(all, pieceOf(unsafe.StringData(b.Var), len(b.Var))...)
		all = append(all, pieceOf(unsafe.StringData(b.Val.S), len(b.Val.S))...)
	}
	return all
}

func meet(a, b bounds) bool { return a.from < b.to && b.from < a.to }

func TestP5_1_AnswersAreNewMemory(t *testing.T) {
	for _, c := range calls(t) {
		for _, p := range pieces(c.answer) {
			for _, arg := range c.args {
				for _, q := range pieces(arg) {
					if meet(p, q) {
						t.Errorf("%s: the answer shares memory with an argument", c.name)
					}
				}
			}
		}
	}
}

// What lay behind an argument's length is not handed out, in spare room neither (R6).
func TestP5_1_SpareRoomIsNotHandedOut(t *testing.T) {
	for _, c := range calls(t) {
		if told := strings.ToLower(fmt.Sprint(whole([][]api.Bind{c.answer}))); strings.Contains(told, "spare") || strings.Contains(told, "77") {
			t.Errorf("%s hands out spare room: %s", c.name, told)
		}
	}
	if v, ok := Get(roomy(bind("B", num(1))), "Spare"); v != (api.Value{}) || ok {
		t.Errorf("Get reads spare room: %+v, %v", v, ok)
	}
	// The spare room of each is wrong, and has another value of A: it does not count.
	a, b := roomy(bind("A", num(1)), bind("C", num(1))), roomy(bind("A", num(1)), bind("B", num(1)))
	if got, ok := Both(a, b); !ok || len(got) != 3 || Check(a) != api.OK {
		t.Errorf("Both reads spare room: %+v, %v", got, ok)
	}
}

// orders lists all orders of the Binds.
func orders(binds []api.Bind) [][]api.Bind {
	if len(binds) == 0 {
		return [][]api.Bind{nil}
	}
	var all [][]api.Bind
	for i, b := range binds {
		rest := slices.Delete(slices.Clone(binds), i, i+1)
		for _, l := range orders(rest) {
			all = append(all, append(list(b), l...))
		}
	}
	return all
}

// putAll puts one behind the other; behind each put all that was put so far is got.
func putAll(t *testing.T, binds []api.Bind) []api.Bind {
	t.Helper()
	var l []api.Bind
	for i, b := range binds {
		next, ok := Put(l, b.Var, b.Val)
		if !ok || Check(next) != api.OK {
			t.Fatalf("Put(%+v, %+v) = %+v, %v", l, b, next, ok)
		}
		l = next
		for _, c := range binds[:i+1] {
			if v, is := Get(l, c.Var); v != c.Val || !is {
				t.Fatalf("%+v was put: Get tells %+v, %v", c, v, is)
			}
		}
		for _, c := range binds[i+1:] {
			if v, is := Get(l, c.Var); is != slices.Contains(binds[:i+1], c) {
				t.Fatalf("%+v is yet to be put: Get tells %+v, %v", c, v, is)
			}
		}
	}
	return l
}

func TestP5_2_InWhateverOrder(t *testing.T) {
	want := list(bind("A", num(1)), bind("AA", str("")), bind("A_", sym("a")), bind("B", num(1)), bind("Z", str("a")), bind("Za", num(api.Least)))
	for _, l := range orders(want) {
		if got := putAll(t, append(l, l[0], l[3])); !reflect.DeepEqual(got, want) {
			t.Fatalf("%+v are put: %+v", l, got)
		}
		left, right := putAll(t, l[:4]), putAll(t, l[2:])
		for _, pair := range [][2][]api.Bind{{left, right}, {right, left}} {
			if got, ok := Both(pair[0], pair[1]); !ok || !reflect.DeepEqual(got, want) {
				t.Fatalf("Both of %+v: %+v, %v", pair, got, ok)
			}
		}
	}
}

func TestP5_2_ManyInUnlikeOrders(t *testing.T) {
	want := many(0, limit)
	for _, stride := range []int{1, 3, 37, 99} {
		var l []api.Bind
		for i := range want {
			l = append(l, want[i*stride%limit])
		}
		if got := putAll(t, l); !reflect.DeepEqual(got, want) {
			t.Errorf("by strides of %d: %+v", stride, got)
		}
	}
}

// Each byte puts a value of a variable; whatever the bytes are, the list is that of the first values.
func FuzzP5_2_Puts(f *testing.F) {
	f.Add([]byte{7, 0, 3, 8, 3, 15, 7})
	f.Add([]byte{0, 1, 2, 3, 4, 5, 6, 7, 8, 9, 10, 11})
	f.Add([]byte{11, 6, 5, 4, 4, 4, 1, 0, 200})
	f.Fuzz(func(t *testing.T, steps []byte) {
		var m model
		var l []api.Bind
		for _, b := range steps {
			which, n := int(b)%len(m), int(b)/len(m)%3+1
			next, ok := Put(l, modelNames()[which], modelValues()[n])
			if want := m[which] == 0 || m[which] == n; ok != want {
				t.Fatalf("%v: Put(%+v, %q, %+v) = %v", steps, l, modelNames()[which], modelValues()[n], ok)
			}
			if ok {
				m[which], l = n, next
			}
			if v, is := Get(l, modelNames()[which]); !is || v != modelValues()[m[which]] || !reflect.DeepEqual(l, m.list()) {
				t.Fatalf("%v: %+v; want %+v", steps, l, m.list())
			}
		}
	})
}
