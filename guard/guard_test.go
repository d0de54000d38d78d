package guard

import (
	"fmt"
	"math"
	"slices"
	"strconv"
	"strings"
	"testing"

	"constable/api"
)

// limit is how many Binds a right list of layer 5 may have, told here by itself.
const limit = 100

func integer(n int) api.Value { return api.Value{Kind: api.Int, N: n} }
func sym(s string) api.Value  { return api.Value{Kind: api.Sym, S: s} }
func str(s string) api.Value  { return api.Value{Kind: api.Str, S: s} }

func variable(name string) api.Op { return api.Op{Kind: api.PushVar, Var: name} }
func constant(v api.Value) api.Op { return api.Op{Kind: api.PushVal, Val: v} }
func number(n int) api.Op         { return constant(integer(n)) }
func do(kind int) api.Op          { return api.Op{Kind: kind} }
func steps(l ...api.Op) []api.Op  { return l }

func bind(name string, v api.Value) api.Bind { return api.Bind{Var: name, Val: v} }
func list(binds ...api.Bind) []api.Bind      { return binds }

func compare(how int, left, right []api.Op) api.Cond {
	return api.Cond{Kind: api.Guard, How: how, Left: left, Right: right}
}

// many tells so many variables, each with its number as its value.
func many(count int) []api.Bind {
	var l []api.Bind
	for i := range count {
		l = append(l, bind("V"+strconv.Itoa(1000000+i), integer(i)))
	}
	return l
}

func ways() []int { return []int{api.Eq, api.Ne, api.Lt, api.Le} }

func wrongWays() []int {
	return []int{0, -1, api.Le + 1, 100, api.Eq - 256, api.Eq + 256, 1 << 32, math.MinInt, math.MaxInt}
}

// rightValues rise within each kind; the kinds hold what is alike in other fields.
func rightValues() []api.Value {
	return []api.Value{
		integer(api.Least), integer(api.Least + 1), integer(-10), integer(-9), integer(-1), integer(0), integer(1), integer(9), integer(10), integer(api.Most - 1), integer(api.Most),
		sym("a"), sym("a0"), sym("aZ"), sym("a_"), sym("aa"), sym("ab"), sym("b"), sym("not"), sym(strings.Repeat("z", api.MaxName-1)), sym(strings.Repeat("z", api.MaxName)),
		str(""), str(" "), str("\""), str("0"), str("10"), str("9"), str("A"), str("\\"), str("a"), str("aa"), str("b"), str(strings.Repeat("~", api.MaxStr-1)), str(strings.Repeat("~", api.MaxStr)),
	}
}

func wrongValues() []api.Value {
	return []api.Value{
		{}, {Kind: -1}, {Kind: api.Str + 1}, {N: 1}, {S: "a"}, integer(api.Most + 1), integer(api.Least - 1), integer(math.MinInt), integer(math.MaxInt),
		{Kind: api.Int, S: "a"}, sym(""), sym("A"), {Kind: api.Sym, N: 1, S: "a"}, sym(strings.Repeat("a", api.MaxName+1)),
		str("\n"), str("\x7f"), {Kind: api.Str, N: 1}, str(strings.Repeat("a", api.MaxStr+1)),
	}
}

// wrongSides holds lists of steps that layer 7 refuses.
func wrongSides() [][]api.Op {
	one := number(1)
	all := [][]api.Op{
		nil, {}, steps(one, one), steps(do(api.Add)), steps(one, do(api.Add)), steps(one, one, do(api.Add), do(api.Add)), steps(api.Op{}), steps(do(api.PushVar)), steps(variable("x")), steps(do(6)),
		steps(api.Op{Kind: api.PushVar, Var: "X", Val: integer(1)}), steps(api.Op{Kind: api.PushVal, Var: "X", Val: integer(1)}), steps(one, one, api.Op{Kind: api.Add, Var: "X"}),
		sum(8), slices.Repeat(steps(one), 1000),
	}
	for _, v := range wrongValues() {
		all = append(all, steps(constant(v)), steps(one, constant(v), do(api.Sub)))
	}
	return all
}

// sum tells ones, so many times added: 2*times+1 steps.
func sum(times int) []api.Op {
	return append(steps(number(1)), slices.Repeat(steps(number(1), do(api.Add)), times)...)
}

// wrongAtoms holds atoms that are not zero, right ones too.
func wrongAtoms() []api.Atom {
	return []api.Atom{
		{Name: "a"}, {Name: "not"}, {Name: " "}, {Name: "\x00"},
		{Args: []api.Term{{}}}, {Args: []api.Term{{Var: "X"}}}, {Args: []api.Term{{Val: integer(1)}}}, {Args: make([]api.Term, 10)},
		{Name: "a", Args: []api.Term{{Var: "X"}}},
	}
}

// wrongLists holds lists that layer 5 refuses, each for one reason alone.
func wrongLists() [][]api.Bind {
	all := [][]api.Bind{
		list(api.Bind{}),
		list(bind("x", integer(1))),
		list(bind("X", integer(1)), bind("S", integer(1))),
		list(bind("X", integer(1)), bind("X", integer(1))),
		list(bind("X", integer(1)), bind("X", integer(2))),
		many(limit + 1),
	}
	for _, v := range wrongValues() {
		all = append(all, list(bind("X", v)))
	}
	return all
}

// plainOrder tells how two of one kind stand, by the words of chapter 1 alone.
func plainOrder(a, b api.Value) int {
	if a.N != b.N {
		if a.N < b.N {
			return -1
		}
		return 1
	}
	for i := range min(len(a.S), len(b.S)) {
		if a.S[i] != b.S[i] {
			return int(a.S[i]) - int(b.S[i])
		}
	}
	return len(a.S) - len(b.S)
}

// plainHolds tells what the chapter's words say of right values and a right way.
func plainHolds(how int, a, b api.Value) (bool, api.Errno) {
	same := a.Kind == b.Kind && a.N == b.N && a.S == b.S
	if how == api.Eq || how == api.Ne {
		return same == (how == api.Eq), api.OK
	}
	if a.Kind != b.Kind {
		return false, api.ErrKind
	}
	return plainOrder(a, b) < 0 || same && how == api.Le, api.OK
}

func takeHolds(t *testing.T, how int, a, b api.Value, want bool, told api.Errno) {
	t.Helper()
	if is, e := Holds(how, a, b); is != want || e != told {
		t.Errorf("Holds(%d, %+v, %+v) = %v, %d; want %v, %d", how, a, b, is, e, want, told)
	}
}

func takeEval(t *testing.T, c api.Cond, l []api.Bind, want bool, told api.Errno) {
	t.Helper()
	if is, e := Eval(c, l); is != want || e != told {
		t.Errorf("Eval(%+v, %+v) = %v, %d; want %v, %d", c, l, is, e, want, told)
	}
}

// refused holds c to be wrong for Check and for Eval, whatever values there are.
func refused(t *testing.T, c api.Cond) {
	t.Helper()
	if e := Check(c); e != api.ErrArg {
		t.Errorf("Check(%+v) = %d", c, e)
	}
	takeEval(t, c, nil, false, api.ErrArg)
	takeEval(t, c, list(bind("S", sym("s")), bind("X", integer(1))), false, api.ErrArg)
}

func TestP8_1_ExampleOfTheChapter(t *testing.T) {
	takeEval(t, compare(api.Lt, steps(variable("X")), steps(number(3))), list(bind("X", integer(2))), true, api.OK)
}

func TestP8_1_HoldsOfEachWay(t *testing.T) {
	for _, c := range []struct {
		a, b           api.Value
		eq, ne, lt, le bool
	}{
		{integer(1), integer(2), false, true, true, true},
		{integer(2), integer(2), true, false, false, true},
		{integer(3), integer(2), false, true, false, false},
		{integer(9), integer(10), false, true, true, true},
		{integer(-10), integer(-9), false, true, true, true},
		{integer(api.Least), integer(api.Most), false, true, true, true},
		{integer(api.Most), integer(api.Least), false, true, false, false},
		{sym("a"), sym("ab"), false, true, true, true},
		{sym("ab"), sym("b"), false, true, true, true},
		{sym("aB"), sym("aa"), false, true, true, true},
		{sym("a"), sym("a"), true, false, false, true},
		{str(""), str(""), true, false, false, true},
		{str(""), str(" "), false, true, true, true},
		{str("10"), str("9"), false, true, true, true},
		{str("b"), str("a"), false, true, false, false},
	} {
		for how, want := range []bool{c.eq, c.ne, c.lt, c.le} {
			takeHolds(t, how+1, c.a, c.b, want, api.OK)
		}
	}
}

func TestP8_1_HoldsOfAllPairs(t *testing.T) {
	for _, how := range ways() {
		for _, a := range rightValues() {
			for _, b := range rightValues() {
				want, told := plainHolds(how, a, b)
				takeHolds(t, how, a, b, want, told)
			}
		}
	}
}

// What is alike but for its kind is unlike, and has no order either way.
func TestP8_1_HoldsOfUnlikeKinds(t *testing.T) {
	for _, c := range [][2]api.Value{{sym("a"), str("a")}, {integer(1), str("1")}, {integer(0), str("")}, {integer(1), sym("a")}, {integer(api.Least), sym("z")}, {integer(api.Most), str("~")}} {
		for _, p := range [][2]api.Value{c, {c[1], c[0]}} {
			takeHolds(t, api.Eq, p[0], p[1], false, api.OK)
			takeHolds(t, api.Ne, p[0], p[1], true, api.OK)
			takeHolds(t, api.Lt, p[0], p[1], false, api.ErrKind)
			takeHolds(t, api.Le, p[0], p[1], false, api.ErrKind)
		}
	}
}

func TestP8_1_HoldsRefusesWrongWays(t *testing.T) {
	all := append(rightValues(), wrongValues()...)
	for _, how := range wrongWays() {
		for _, a := range all {
			takeHolds(t, how, a, a, false, api.ErrArg)
			takeHolds(t, how, a, integer(1), false, api.ErrArg)
			takeHolds(t, how, str("a"), a, false, api.ErrArg)
		}
	}
}

// A wrong value is refused on either side, ahead of what its kind would tell.
func TestP8_1_HoldsRefusesWrongValues(t *testing.T) {
	for _, how := range ways() {
		for _, wrong := range wrongValues() {
			takeHolds(t, how, wrong, wrong, false, api.ErrArg)
			for _, right := range rightValues() {
				takeHolds(t, how, wrong, right, false, api.ErrArg)
				takeHolds(t, how, right, wrong, false, api.ErrArg)
			}
		}
	}
}

func TestP8_1_CheckTakesRightComparisons(t *testing.T) {
	sides := [][]api.Op{steps(number(1)), steps(variable("X")), steps(constant(sym("not"))), steps(constant(str(""))), steps(variable("X"), variable("Y"), do(api.Mul)), sum(7)}
	for _, how := range ways() {
		for _, left := range sides {
			for _, right := range sides {
				for _, args := range [][]api.Term{nil, {}, wrongAtoms()[7].Args[:0]} {
					c := compare(how, left, right)
					c.Atom.Args = args
					if e := Check(c); e != api.OK {
						t.Errorf("Check(%+v) = %d", c, e)
					}
				}
			}
		}
	}
}

func TestP8_1_CheckRefusesEachFault(t *testing.T) {
	right := steps(number(1))
	for _, how := range ways() {
		for _, kind := range []int{0, -1, api.Has, api.Not, api.Guard + 1, api.Guard + 256, math.MinInt, math.MaxInt} {
			refused(t, api.Cond{Kind: kind, How: how, Left: right, Right: right})
		}
		for _, a := range wrongAtoms() {
			refused(t, api.Cond{Kind: api.Guard, Atom: a, How: how, Left: right, Right: right})
		}
		for _, wrong := range wrongSides() {
			refused(t, compare(how, wrong, right))
			refused(t, compare(how, right, wrong))
			refused(t, compare(how, wrong, wrong))
		}
	}
	for _, how := range wrongWays() {
		refused(t, compare(how, right, right))
	}
	refused(t, api.Cond{})
	refused(t, api.Cond{Kind: api.Has, Atom: api.Atom{Name: "a"}})
	refused(t, api.Cond{Kind: api.Not, Atom: api.Atom{Name: "a"}})
}

func TestP8_1_EvalOfOneValueEach(t *testing.T) {
	for _, how := range ways() {
		for _, a := range rightValues() {
			for _, b := range rightValues() {
				want, told := plainHolds(how, a, b)
				takeEval(t, compare(how, steps(constant(a)), steps(constant(b))), nil, want, told)
				takeEval(t, compare(how, steps(variable("X")), steps(variable("Y"))), list(bind("X", a), bind("Y", b)), want, told)
				takeEval(t, compare(how, steps(variable("Y")), steps(variable("X"))), list(bind("X", b), bind("Y", a)), want, told)
				takeEval(t, compare(how, steps(variable("X")), steps(constant(b))), list(bind("W", b), bind("X", a)), want, told)
			}
		}
	}
}

func TestP8_1_EvalOfWhatIsReckoned(t *testing.T) {
	b := list(bind("X", integer(2)), bind("Y", integer(5)))
	less, more := steps(variable("X"), variable("Y"), do(api.Sub)), steps(variable("Y"), variable("X"), do(api.Sub))
	takeEval(t, compare(api.Eq, less, steps(number(-3))), b, true, api.OK)
	takeEval(t, compare(api.Eq, less, more), b, false, api.OK)
	takeEval(t, compare(api.Lt, less, more), b, true, api.OK)
	takeEval(t, compare(api.Lt, more, less), b, false, api.OK)
	takeEval(t, compare(api.Le, more, steps(number(3))), b, true, api.OK)
	takeEval(t, compare(api.Le, sum(7), steps(number(8))), b, true, api.OK)
	takeEval(t, compare(api.Lt, sum(7), sum(7)), b, false, api.OK)
	takeEval(t, compare(api.Ne, sum(7), sum(6)), b, true, api.OK)
	takeEval(t, compare(api.Eq, steps(number(1<<31), number(1<<31), do(api.Mul)), steps(number(api.Most))), nil, true, api.OK)
	full := many(limit)
	takeEval(t, compare(api.Lt, steps(variable(full[0].Var)), steps(variable(full[limit-1].Var))), full, true, api.OK)
}

// side is an expression, and the error that it comes to with the values of faultyBinds.
type side struct {
	l []api.Op
	e api.Errno
}

func faultyBinds() []api.Bind {
	return list(bind("M", integer(api.Most)), bind("S", sym("s")), bind("X", integer(2)))
}

func faultySides() []side {
	return []side{
		{steps(variable("Y")), api.ErrUnbound},
		{steps(variable("X"), variable("XX"), do(api.Add)), api.ErrUnbound},
		{steps(variable("S"), variable("Y"), do(api.Add)), api.ErrUnbound},
		{steps(variable("S"), number(1), do(api.Add)), api.ErrKind},
		{steps(number(0), constant(str("")), do(api.Mul)), api.ErrKind},
		{steps(variable("M"), number(1), do(api.Add)), api.ErrOver},
		{steps(number(api.Least), number(2), do(api.Mul)), api.ErrOver},
	}
}

// The left side's error is told ahead of the right one's, and both ahead of what the comparison would tell.
func TestP8_1_EvalTellsTheFirstFault(t *testing.T) {
	b := faultyBinds()
	for _, how := range ways() {
		for _, left := range faultySides() {
			for _, right := range faultySides() {
				takeEval(t, compare(how, left.l, right.l), b, false, left.e)
			}
			for _, v := range rightValues() {
				takeEval(t, compare(how, left.l, steps(constant(v))), b, false, left.e)
				takeEval(t, compare(how, steps(constant(v)), left.l), b, false, left.e)
			}
		}
	}
}

// A wrong comparison or a wrong list is told ahead of whatever the sides would come to.
func TestP8_1_EvalRefusesInOrder(t *testing.T) {
	for _, one := range append(faultySides(), side{l: steps(number(1))}, side{l: steps(variable("X"))}) {
		for _, how := range ways() {
			for _, wrong := range wrongSides() {
				refused(t, compare(how, one.l, wrong))
				refused(t, compare(how, wrong, one.l))
			}
			for _, b := range wrongLists() {
				takeEval(t, compare(how, one.l, steps(constant(sym("a")))), b, false, api.ErrArg)
				takeEval(t, compare(how, steps(constant(sym("a"))), one.l), b, false, api.ErrArg)
			}
		}
		for _, how := range wrongWays() {
			refused(t, compare(how, one.l, one.l))
		}
	}
}

// nil and empty are the same (R2).
func TestP8_1_NilIsEmpty(t *testing.T) {
	one := steps(number(1))
	for _, b := range [][]api.Bind{nil, {}, many(3)[:0], wrongLists()[0][:0]} {
		takeEval(t, compare(api.Eq, one, one), b, true, api.OK)
		takeEval(t, compare(api.Eq, one, steps(variable("X"))), b, false, api.ErrUnbound)
		for _, none := range [][]api.Op{nil, {}, one[:0]} {
			takeEval(t, compare(api.Eq, none, one), b, false, api.ErrArg)
			takeEval(t, compare(api.Eq, one, none), b, false, api.ErrArg)
		}
		for _, args := range [][]api.Term{nil, {}, {{Var: "X"}}} {
			c := compare(api.Eq, one, one)
			c.Atom.Args = args[:0]
			takeEval(t, c, b, true, api.OK)
		}
	}
}

// roomy tells a copy of a list with the items of spare in its spare room.
func roomy[T any](l []T, spare ...T) []T { return slices.Concat(l, spare)[:len(l)] }

func roomyCond(c api.Cond) api.Cond {
	c.Left = roomy(c.Left, number(77), do(api.Add), api.Op{})
	c.Right = roomy(c.Right, variable("Spare"), do(api.Mul), api.Op{})
	c.Atom.Args = roomy(c.Atom.Args, api.Term{Var: "Spare"}, api.Term{Val: integer(77)})
	return c
}

// told writes all that is given, its spare room too.
func told(c api.Cond, l []api.Bind) string {
	return fmt.Sprintf("%#v", []any{c, c.Left[:cap(c.Left)], c.Right[:cap(c.Right)], c.Atom.Args[:cap(c.Atom.Args)], l[:cap(l)]})
}

// some tells comparisons that hold, that do not, that come to errors and that are wrong.
func some() []api.Cond {
	var all []api.Cond
	for _, how := range []int{api.Eq, api.Ne, api.Lt, api.Le, 0} {
		all = append(all,
			compare(how, steps(variable("X")), steps(number(3))),
			compare(how, steps(variable("X"), number(1), do(api.Add)), steps(number(3))),
			compare(how, steps(variable("S")), steps(constant(str("s")))),
			compare(how, steps(variable("Spare")), steps(number(77))),
			compare(how, steps(number(77)), nil),
			compare(how, nil, steps(number(77))),
			api.Cond{Kind: api.Guard, Atom: api.Atom{Name: "a", Args: []api.Term{{Var: "X"}}}, How: how, Left: steps(number(1)), Right: steps(number(1))},
		)
	}
	for _, left := range faultySides() {
		all = append(all, compare(api.Le, left.l, steps(number(1))), compare(api.Ne, steps(number(1)), left.l))
	}
	return all
}

// What is handed in is not changed, and spare room is not read (R2, R6).
func TestP8_1_ArgumentsStayAsTheyWere(t *testing.T) {
	for i, plain := range some() {
		c, l := roomyCond(plain), roomy(faultyBinds(), bind("Spare", integer(77)), api.Bind{})
		before := told(c, l)
		is, e := Eval(c, l)
		if want, d := Eval(plain, faultyBinds()); is != want || e != d || Check(c) != Check(plain) {
			t.Errorf("%d: spare room is read: %v, %d; want %v, %d", i, is, e, want, d)
		}
		if after := told(c, l); after != before {
			t.Errorf("%d: %s was changed to %s", i, before, after)
		}
	}
}

// What is answered hangs on the arguments alone (R3).
func TestP8_1_TwiceTheSame(t *testing.T) {
	for _, c := range some() {
		first, e := Eval(c, faultyBinds())
		for _, other := range some() {
			Eval(other, nil)
			Check(other)
			Holds(other.How, integer(1), sym("a"))
			if second, d := Eval(c, faultyBinds()); first != second || e != d {
				t.Errorf("Eval(%+v) = %v, %d, then %v, %d", c, first, e, second, d)
			}
		}
	}
}

// asked tells whether a way holds, and 1 if it does, to be counted.
func asked(t *testing.T, how int, a, b api.Value) (bool, int) {
	t.Helper()
	is, e := Holds(how, a, b)
	if e != api.OK {
		t.Fatalf("Holds(%d, %+v, %+v): %d", how, a, b, e)
	}
	if is {
		return true, 1
	}
	return false, 0
}

// held holds two values of one kind against P8.2.
func held(t *testing.T, a, b api.Value) {
	t.Helper()
	less, first := asked(t, api.Lt, a, b)
	same, second := asked(t, api.Eq, a, b)
	_, third := asked(t, api.Lt, b, a)
	if first+second+third != 1 {
		t.Errorf("of less, the same, greater %d, %d, %d hold of %+v and %+v", first, second, third, a, b)
	}
	if unlike, _ := asked(t, api.Ne, a, b); unlike == same {
		t.Errorf("%+v and %+v are the same: %v; unlike: %v", a, b, same, unlike)
	}
	if atMost, _ := asked(t, api.Le, a, b); atMost != (less || same) {
		t.Errorf("%+v and %+v: less %v, the same %v, one of these %v", a, b, less, same, atMost)
	}
}

func TestP8_2_OneOfThreeHolds(t *testing.T) {
	for _, a := range rightValues() {
		for _, b := range rightValues() {
			if a.Kind == b.Kind {
				held(t, a, b)
			}
		}
	}
}

// The three are of one order: what is less than a lesser one is less.
func TestP8_2_TheOrderIsOne(t *testing.T) {
	for i, a := range rightValues() {
		for j, b := range rightValues() {
			if a.Kind != b.Kind {
				continue
			}
			if is, _ := asked(t, api.Lt, a, b); is != (i < j) {
				t.Errorf("%+v is less than %+v: %v", a, b, is)
			}
			if is, _ := asked(t, api.Le, a, b); is != (i <= j) {
				t.Errorf("%+v is at most %+v: %v", a, b, is)
			}
		}
	}
}

// Of unlike kinds neither less nor greater is told, but an error; they are unlike all the same.
func TestP8_2_UnlikeKindsAreUnlike(t *testing.T) {
	for _, a := range rightValues() {
		for _, b := range rightValues() {
			if a.Kind == b.Kind {
				continue
			}
			takeHolds(t, api.Ne, a, b, true, api.OK)
			takeHolds(t, api.Eq, a, b, false, api.OK)
			takeHolds(t, api.Lt, a, b, false, api.ErrKind)
			takeHolds(t, api.Lt, b, a, false, api.ErrKind)
		}
	}
}

// The same holds of what expressions come to.
func TestP8_2_OneOfThreeHoldsOfExpressions(t *testing.T) {
	b := list(bind("X", integer(2)), bind("Y", integer(-2)))
	sides := [][]api.Op{steps(variable("X")), steps(variable("Y")), steps(number(2)), sum(7), steps(variable("X"), variable("Y"), do(api.Mul)), steps(variable("Y"), variable("X"), do(api.Sub)), steps(number(api.Least)), steps(number(api.Most))}
	for _, left := range sides {
		for _, right := range sides {
			count := 0
			for _, c := range []api.Cond{compare(api.Lt, left, right), compare(api.Eq, left, right), compare(api.Lt, right, left)} {
				is, e := Eval(c, b)
				if e != api.OK {
					t.Fatalf("Eval(%+v): %d", c, e)
				}
				if is {
					count++
				}
			}
			if count != 1 {
				t.Errorf("of less, the same, greater %d hold of %+v and %+v", count, left, right)
			}
		}
	}
}

// Any two values: what is refused is wrong, what is taken is as the chapter's words say.
func FuzzP8_2(f *testing.F) {
	f.Add(api.Lt, api.Int, 1, "", api.Int, 2, "")
	f.Add(api.Le, api.Sym, 0, "a", api.Str, 0, "a")
	f.Add(api.Eq, api.Str, 0, "\xff", 0, -1, "")
	f.Fuzz(func(t *testing.T, how, kind, n int, s string, other, m int, r string) {
		a, b := api.Value{Kind: kind, N: n, S: s}, api.Value{Kind: other, N: m, S: r}
		is, e := Holds(how, a, b)
		c := compare(how, steps(constant(a)), steps(constant(b)))
		takeEval(t, c, nil, is, e)
		if (Check(c) == api.ErrArg) != (e == api.ErrArg) {
			t.Errorf("Check(%+v) = %d, Holds: %d", c, Check(c), e)
		}
		if e == api.ErrArg {
			if is {
				t.Errorf("Holds(%d, %+v, %+v) = true, %d", how, a, b, e)
			}
			return
		}
		if !slices.Contains(ways(), how) {
			t.Fatalf("Holds takes the way %d", how)
		}
		want, d := plainHolds(how, a, b)
		takeHolds(t, how, a, b, want, d)
		if a.Kind == b.Kind {
			held(t, a, b)
		}
	})
}
