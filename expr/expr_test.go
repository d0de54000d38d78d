package expr

import (
	"fmt"
	"math"
	"math/big"
	"slices"
	"strconv"
	"strings"
	"testing"
	"unsafe"

	"constable/api"
)

// limit is how many Binds a right list of layer 5 may have, told here by itself.
const limit = 100

func integer(n int) api.Value { return api.Value{Kind: api.Int, N: n} }
func sym(s string) api.Value  { return api.Value{Kind: api.Sym, S: s} }
func str(s string) api.Value  { return api.Value{Kind: api.Str, S: s} }

func variable(name string) api.Op { return api.Op{Kind: api.PushVar, Var: name} }
func constant(v api.Value) api.Op { return api.Op{Kind: api.PushVal, Val: v} }
func number(n int) api.Op         { return constant(integer(n)) }
func do(kind int) api.Op          { return api.Op{Kind: kind} }
func steps(l ...api.Op) []api.Op  { return l }

func bind(name string, v api.Value) api.Bind { return api.Bind{Var: name, Val: v} }
func list(binds ...api.Bind) []api.Bind      { return binds }

// many tells so many variables, each with its number as its value.
func many(count int) []api.Bind {
	var l []api.Bind
	for i := range count {
		l = append(l, bind("V"+strconv.Itoa(1000000+i), integer(i)))
	}
	return l
}

func rightValues() []api.Value {
	return []api.Value{
		integer(0), integer(1), integer(-1), integer(api.Most), integer(api.Least),
		sym("a"), sym("b"), sym("not"), sym(strings.Repeat("z", api.MaxName)),
		str("a"), str(""), str("0"), str("X"), str(strings.Repeat("~", api.MaxStr)),
	}
}

func wrongValues() []api.Value {
	return []api.Value{
		{}, {Kind: -1}, {Kind: api.Str + 1}, {N: 1}, {S: "a"}, integer(api.Most + 1), integer(api.Least - 1), integer(math.MinInt), integer(math.MaxInt),
		{Kind: api.Int, S: "a"}, sym(""), sym("A"), {Kind: api.Sym, N: 1, S: "a"}, sym(strings.Repeat("a", api.MaxName+1)),
		str("\n"), str("\x7f"), {Kind: api.Str, N: 1}, str(strings.Repeat("a", api.MaxStr+1)),
	}
}

func rightVars() []string {
	return []string{"A", "Z", "X", "X1_y", "NOT", "Fact", strings.Repeat("Z", api.MaxName)}
}

func wrongVars() []string {
	return []string{"", "x", "xX", "_", "_X", "1", " ", " X", "X ", "X-", "X\x00", "\x00", "É", "XÉ", "\xff", "not", strings.Repeat("X", api.MaxName+1), strings.Repeat("X", 100000)}
}

func kinds() []int { return []int{api.Add, api.Sub, api.Mul} }

func rightPushes() []api.Op {
	var l []api.Op
	for _, v := range rightValues() {
		l = append(l, constant(v))
	}
	for _, name := range rightVars() {
		l = append(l, variable(name))
	}
	return l
}

// wrongPushes holds steps that would push one, had they not something wrong, or that are of no kind at all.
func wrongPushes() []api.Op {
	var l []api.Op
	for _, v := range wrongValues() {
		l = append(l, constant(v))
		if v != (api.Value{}) {
			l = append(l, api.Op{Kind: api.PushVar, Var: "X", Val: v})
		}
	}
	for _, v := range rightValues() {
		l = append(l, api.Op{Kind: api.PushVar, Var: "X", Val: v}, api.Op{Kind: api.PushVar, Val: v}, api.Op{Kind: api.PushVal, Var: "X", Val: v}, api.Op{Kind: api.PushVal, Var: "x", Val: v})
	}
	for _, name := range wrongVars() {
		l = append(l, variable(name))
	}
	for _, kind := range wrongKinds() {
		l = append(l, api.Op{Kind: kind, Var: "X"}, api.Op{Kind: kind, Val: integer(1)})
	}
	return append(l, api.Op{Kind: api.PushVal, Var: "X"})
}

// wrongDoings holds steps that would take two, had they not something wrong, or that are of no kind at all.
func wrongDoings() []api.Op {
	var l []api.Op
	for _, kind := range kinds() {
		l = append(l, api.Op{Kind: kind, Var: "X"}, api.Op{Kind: kind, Var: "x"}, api.Op{Kind: kind, Val: integer(0)}, api.Op{Kind: kind, Val: api.Value{N: 1}}, api.Op{Kind: kind, Val: api.Value{S: "a"}}, api.Op{Kind: kind, Val: sym("a")})
	}
	for _, kind := range wrongKinds() {
		l = append(l, do(kind))
	}
	return l
}

func wrongKinds() []int { return []int{0, -1, api.Mul + 1, math.MinInt, math.MaxInt} }

// leftward and rightward tell right expressions of 2*doings+1 steps: the shapes with the lowest and the highest stack.
func leftward(push api.Op, kind, doings int) []api.Op {
	return append(steps(push), slices.Repeat(steps(push, do(kind)), doings)...)
}

func rightward(push api.Op, kind, doings int) []api.Op {
	return append(slices.Repeat(steps(push), doings+1), slices.Repeat(steps(do(kind)), doings)...)
}

func wrongExpressions() [][]api.Op {
	one := number(1)
	all := [][]api.Op{
		nil, {}, {do(api.Add)}, {one, do(api.Add)}, {one, one}, {one, do(api.Sub), one}, {do(api.Mul), one, one},
		{one, one, do(api.Add), do(api.Add)}, {one, one, do(api.Add), do(api.Add), one}, {one, one, do(api.Add), one},
		leftward(one, api.Add, 8), rightward(one, api.Add, 8), leftward(one, api.Add, 50000),
		slices.Repeat(steps(one), api.MaxExpr), slices.Repeat(steps(do(api.Add)), api.MaxExpr),
		append(rightward(one, api.Add, 7), one), append(rightward(one, api.Add, 7), do(api.Add)),
		append(slices.Repeat(steps(one), 9), slices.Repeat(steps(do(api.Add)), 8)...),
	}
	for _, op := range wrongPushes() {
		all = append(all, steps(op), steps(op, one, do(api.Add)), steps(one, op, do(api.Add)))
	}
	for _, op := range wrongDoings() {
		all = append(all, steps(one, one, op), steps(one, one, op, one, do(api.Add)))
	}
	return all
}

// wrongLists holds lists that layer 5 refuses, each for one reason alone.
func wrongLists() [][]api.Bind {
	all := [][]api.Bind{
		list(api.Bind{}),
		list(bind("x", integer(1))),
		list(bind("B", integer(1)), bind("A", integer(1))),
		list(bind("X", integer(1)), bind("X", integer(1))),
		list(bind("X", integer(1)), bind("X", integer(2))),
		many(limit + 1),
	}
	for _, v := range wrongValues() {
		all = append(all, list(bind("X", v)))
	}
	return all
}

func takeEval(t *testing.T, l []api.Op, b []api.Bind, want api.Value) {
	t.Helper()
	if got, e := Eval(l, b); e != api.OK || got != want {
		t.Errorf("Eval(%+v, %+v) = %+v, %d; want %+v", l, b, got, e, want)
	}
}

func refuseEval(t *testing.T, l []api.Op, b []api.Bind, want api.Errno) {
	t.Helper()
	if got, e := Eval(l, b); e != want || got != (api.Value{}) {
		t.Errorf("Eval(%+v, %+v) = %+v, %d; want %d", l, b, got, e, want)
	}
}

func TestP7_1_ExampleOfTheChapter(t *testing.T) {
	takeEval(t, steps(variable("X"), number(2), do(api.Mul)), list(bind("X", integer(3))), integer(6))
}

func TestP7_1_CheckTakesRightSteps(t *testing.T) {
	for _, push := range rightPushes() {
		for _, kind := range kinds() {
			for doings := range 8 {
				if l := leftward(push, kind, doings); Check(l) != api.OK {
					t.Errorf("Check(%+v) = %d", l, Check(l))
				}
				if l := rightward(push, kind, doings); Check(l) != api.OK {
					t.Errorf("Check(%+v) = %d", l, Check(l))
				}
			}
		}
	}
}

func TestP7_1_CheckRefusesWrongExpressions(t *testing.T) {
	for _, l := range wrongExpressions() {
		if e := Check(l); e != api.ErrArg {
			t.Errorf("Check(%+v) = %d", l, e)
		}
	}
}

// Each wrong step in each place of each of two shapes makes the whole wrong.
func TestP7_1_CheckOfEachPlace(t *testing.T) {
	for doings := range 8 {
		for _, whole := range [][]api.Op{leftward(number(1), api.Add, doings), rightward(variable("X"), api.Mul, doings)} {
			for place, was := range whole {
				wrong := wrongDoings()
				if was.Kind == api.PushVar || was.Kind == api.PushVal {
					wrong = wrongPushes()
				}
				for _, op := range wrong {
					l := slices.Clone(whole)
					l[place] = op
					if e := Check(l); e != api.ErrArg {
						t.Errorf("Check of %+v at %d of %d = %d", op, place, len(l), e)
					}
				}
			}
		}
	}
}

// tree tells where the last part of steps begins, read from its end: -1, if it has none.
func tree(l []api.Op) int {
	last := len(l) - 1
	if last < 0 || l[last].Kind == api.PushVar || l[last].Kind == api.PushVal {
		return last
	}
	upper := tree(l[:last])
	if upper < 0 {
		return -1
	}
	return tree(l[:upper])
}

// All orders of pushing and taking of up to MaxExpr steps and one more: right just if the steps are one tree.
func TestP7_1_CheckOfAllShapes(t *testing.T) {
	for count := range api.MaxExpr + 2 {
		for bits := range 1 << count {
			var l []api.Op
			for i := range count {
				if bits>>i&1 == 0 {
					l = append(l, number(i))
				} else {
					l = append(l, do(kinds()[i%3]))
				}
			}
			want := api.ErrArg
			if count > 0 && count <= api.MaxExpr && tree(l) == 0 {
				want = api.OK
			}
			if e := Check(l); e != want {
				t.Fatalf("Check(%+v) = %d; want %d", l, e, want)
			}
		}
	}
}

// plainEval tells what the tree that ends with the last step comes to, and where it begins, by numbers without bounds.
func plainEval(l []api.Op, b []api.Bind) (api.Value, int, api.Errno) {
	last := len(l) - 1
	switch l[last].Kind {
	case api.PushVal:
		return l[last].Val, last, api.OK
	case api.PushVar:
		for _, has := range b {
			if has.Var == l[last].Var {
				return has.Val, last, api.OK
			}
		}
		return api.Value{}, last, api.ErrUnbound
	}
	upper := tree(l[:last])
	lowerValue, first, e := plainEval(l[:upper], b)
	if e != api.OK {
		return api.Value{}, first, e
	}
	upperValue, _, e := plainEval(l[:last], b)
	if e != api.OK {
		return api.Value{}, first, e
	}
	v, e := plainDo(l[last].Kind, lowerValue, upperValue)
	return v, first, e
}

func plainDo(kind int, lower, upper api.Value) (api.Value, api.Errno) {
	if lower.Kind != api.Int || upper.Kind != api.Int {
		return api.Value{}, api.ErrKind
	}
	a, b := big.NewInt(int64(lower.N)), big.NewInt(int64(upper.N))
	switch kind {
	case api.Add:
		a.Add(a, b)
	case api.Sub:
		a.Sub(a, b)
	case api.Mul:
		a.Mul(a, b)
	}
	if a.Cmp(big.NewInt(api.Least)) < 0 || a.Cmp(big.NewInt(api.Most)) > 0 {
		return api.Value{}, api.ErrOver
	}
	return integer(int(a.Int64())), api.OK
}

// everyRight goes through all right expressions of up to so many steps that are made of the pushes.
func everyRight(pushes []api.Op, most int, yield func([]api.Op)) {
	var grow func(l []api.Op, depth int)
	grow = func(l []api.Op, depth int) {
		if depth == 1 {
			yield(l)
		}
		// Each value that is left beside the last one needs one more step.
		if len(l)+1+depth <= most {
			for _, op := range pushes {
				grow(append(slices.Clone(l), op), depth+1)
			}
		}
		if depth >= 2 {
			for _, kind := range kinds() {
				grow(append(slices.Clone(l), do(kind)), depth-1)
			}
		}
	}
	grow(nil, 0)
}

// small tells the pushes and the values of variables of which all small cases are made.
func small() ([]api.Op, []api.Bind) {
	b := list(bind("M", integer(api.Most)), bind("S", sym("s")), bind("X", integer(3)))
	return steps(variable("X"), variable("S"), variable("Y"), variable("M"), number(2), number(api.Least), constant(str("2"))), b
}

func TestP7_1_EvalOfAllSmallCases(t *testing.T) {
	pushes, b := small()
	seen := map[api.Errno]int{}
	everyRight(pushes, 7, func(l []api.Op) {
		want, _, told := plainEval(l, b)
		seen[told]++
		if got, e := Eval(l, b); e != told || got != want {
			t.Fatalf("Eval(%+v) = %+v, %d; want %+v, %d", l, got, e, want, told)
		}
	})
	for _, e := range []api.Errno{api.OK, api.ErrUnbound, api.ErrKind, api.ErrOver} {
		if seen[e] == 0 {
			t.Errorf("no case of %d", e)
		}
	}
}

func TestP7_1_EvalOfOneValue(t *testing.T) {
	for _, v := range rightValues() {
		takeEval(t, steps(constant(v)), nil, v)
		takeEval(t, steps(constant(v)), many(limit), v)
		for _, name := range rightVars() {
			takeEval(t, steps(variable(name)), list(bind(name, v)), v)
		}
		takeEval(t, steps(variable("X")), list(bind("A", integer(9)), bind("X", v), bind("XX", integer(8))), v)
	}
	full := many(limit)
	for _, b := range full {
		takeEval(t, steps(variable(b.Var)), full, b.Val)
	}
}

// The lower one stands ahead: it is less the upper one that is told.
func TestP7_1_EvalOfLowerAndUpper(t *testing.T) {
	takeEval(t, steps(number(2), number(5), do(api.Sub)), nil, integer(-3))
	takeEval(t, steps(number(9), number(5), number(3), do(api.Sub), do(api.Sub)), nil, integer(7))
	takeEval(t, steps(number(9), number(5), do(api.Sub), number(3), do(api.Sub)), nil, integer(1))
	takeEval(t, steps(number(2), number(3), do(api.Add), number(4), number(5), do(api.Add), do(api.Mul)), nil, integer(45))
}

func TestP7_1_EvalOfTheLongest(t *testing.T) {
	two := list(bind("X", integer(2)))
	takeEval(t, leftward(variable("X"), api.Mul, 7), two, integer(256))
	takeEval(t, rightward(variable("X"), api.Mul, 7), two, integer(256))
	takeEval(t, leftward(variable("X"), api.Sub, 7), two, integer(-12))
	takeEval(t, rightward(variable("X"), api.Sub, 7), two, integer(0))
	takeEval(t, rightward(variable("X"), api.Add, 7), two, integer(16))
}

func TestP7_1_EvalAtTheBounds(t *testing.T) {
	most, least := number(api.Most), number(api.Least)
	takeEval(t, steps(most, least, do(api.Add)), nil, integer(0))
	takeEval(t, steps(most, number(-1), do(api.Mul)), nil, integer(api.Least))
	takeEval(t, steps(least, number(-1), do(api.Mul)), nil, integer(api.Most))
	takeEval(t, steps(number(1<<31), number(1<<31), do(api.Mul)), nil, integer(api.Most))
	takeEval(t, steps(number(0), least, do(api.Sub)), nil, integer(api.Most))
	refuseEval(t, steps(most, number(1), do(api.Add)), nil, api.ErrOver)
	refuseEval(t, steps(least, number(1), do(api.Sub)), nil, api.ErrOver)
	refuseEval(t, steps(most, most, do(api.Mul)), nil, api.ErrOver)
	// What lies beyond the bounds on the way is refused, though the whole were within them.
	refuseEval(t, steps(most, number(1), do(api.Add), number(1), do(api.Sub)), nil, api.ErrOver)
	takeEval(t, steps(most, number(1), number(1), do(api.Sub), do(api.Add)), nil, integer(api.Most))
	refuseEval(t, steps(most, number(4), do(api.Mul), number(0), do(api.Mul)), nil, api.ErrOver)
}

func TestP7_1_EvalTellsTheFirstFault(t *testing.T) {
	b := list(bind("M", integer(api.Most)), bind("S", sym("s")))
	unbound, text, over := variable("Y"), variable("S"), variable("M")
	refuseEval(t, steps(text, unbound, do(api.Add)), b, api.ErrUnbound)
	refuseEval(t, steps(unbound, text, do(api.Add)), b, api.ErrUnbound)
	refuseEval(t, steps(text, over, do(api.Add), unbound, do(api.Add)), b, api.ErrKind)
	refuseEval(t, steps(over, over, do(api.Add), unbound, do(api.Add)), b, api.ErrOver)
	refuseEval(t, steps(over, over, do(api.Add), text, do(api.Add)), b, api.ErrOver)
	refuseEval(t, steps(text, over, over, do(api.Add), do(api.Add)), b, api.ErrOver)
	refuseEval(t, steps(unbound, over, over, do(api.Add), do(api.Add)), b, api.ErrUnbound)
	// A text has N 0, with which one can't reckon all the same.
	for _, kind := range kinds() {
		for _, v := range rightValues()[5:] {
			refuseEval(t, steps(constant(v), number(0), do(kind)), b, api.ErrKind)
			refuseEval(t, steps(number(0), constant(v), do(kind)), b, api.ErrKind)
			refuseEval(t, steps(constant(v), constant(v), do(kind)), b, api.ErrKind)
		}
	}
}

func TestP7_1_EvalOfUnbound(t *testing.T) {
	for _, name := range []string{"Y", "XX", "X_", "A", "Z", "V"} {
		for _, b := range [][]api.Bind{nil, list(bind("X", integer(1))), many(limit)} {
			refuseEval(t, steps(variable(name)), b, api.ErrUnbound)
			refuseEval(t, steps(number(1), variable(name), do(api.Add)), b, api.ErrUnbound)
			refuseEval(t, steps(variable(name), number(0), do(api.Mul)), b, api.ErrUnbound)
		}
	}
}

func TestP7_1_EvalRefusesInOrder(t *testing.T) {
	for _, l := range wrongExpressions() {
		for _, b := range append(wrongLists(), nil, list(bind("X", integer(1)))) {
			refuseEval(t, l, b, api.ErrArg)
		}
	}
	for _, b := range wrongLists() {
		refuseEval(t, steps(number(1)), b, api.ErrArg)
		refuseEval(t, steps(variable("X")), b, api.ErrArg)
		refuseEval(t, steps(variable("None")), b, api.ErrArg)
		refuseEval(t, steps(constant(sym("a")), number(1), do(api.Add)), b, api.ErrArg)
		refuseEval(t, steps(number(api.Most), number(1), do(api.Add)), b, api.ErrArg)
	}
}

func TestP7_1_VarsOfAny(t *testing.T) {
	for _, c := range []struct {
		l    []api.Op
		want []string
	}{
		{nil, nil},
		{steps(), nil},
		{steps(api.Op{}, api.Op{}), nil},
		{steps(number(1), constant(str("X")), do(api.Add)), nil},
		{steps(variable("X")), []string{"X"}},
		{steps(variable("Z"), variable("A"), variable("Z"), do(api.Add), variable("M"), variable("A")), []string{"Z", "A", "M"}},
		{steps(api.Op{Kind: api.PushVal, Var: "b"}, api.Op{Kind: api.Mul, Var: "A"}, api.Op{Kind: -7, Var: "b"}, api.Op{Kind: 99, Var: "Q", Val: integer(1)}), []string{"b", "A", "Q"}},
		{steps(variable("\xff"), variable(" "), variable("\x00"), variable(" "), variable("not")), []string{"\xff", " ", "\x00", "not"}},
		{steps(variable("XX"), variable("X"), variable("XXX"), variable("X"), variable("XX"), variable("x")), []string{"XX", "X", "XXX", "x"}},
	} {
		if got := Vars(c.l); !slices.Equal(got, c.want) {
			t.Errorf("Vars(%+v) = %q; want %q", c.l, got, c.want)
		}
	}
}

func TestP7_1_VarsOfMany(t *testing.T) {
	const count = 200000
	var l []api.Op
	for i := range 2 * count {
		l = append(l, variable("V"+strconv.Itoa(i%count)))
	}
	got := Vars(l)
	if len(got) != count {
		t.Fatalf("%d of %d", len(got), count)
	}
	for i, name := range got {
		if name != "V"+strconv.Itoa(i) {
			t.Fatalf("at %d: %q", i, name)
		}
	}
}

func TestP7_1_PartOfEachStep(t *testing.T) {
	l := steps(variable("X"), number(2), do(api.Mul), variable("Y"), variable("X"), do(api.Sub), do(api.Add))
	for end, want := range []int{0, 1, 0, 3, 4, 3, 0} {
		if got := Part(l, end); got != want {
			t.Errorf("Part(l, %d) = %d; want %d", end, got, want)
		}
	}
	for _, end := range outside(len(l)) {
		if got := Part(l, end); got != -1 {
			t.Errorf("Part(l, %d) = %d", end, got)
		}
	}
}

// outside tells ends that are of no list of so many steps.
func outside(count int) []int {
	return []int{-1, -2, count, count + 1, 1 << 40, math.MaxInt, math.MinInt}
}

// The part is the one run of steps with that end that is a right expression itself.
func TestP7_1_PartOfAllShapes(t *testing.T) {
	everyRight(steps(number(1)), 9, func(l []api.Op) {
		for end := range l {
			first := tree(l[:end+1])
			if got := Part(l, end); got != first {
				t.Fatalf("Part(%+v, %d) = %d; want %d", l, end, got, first)
			}
			for from := range end + 1 {
				if is := Check(l[from:end+1]) == api.OK; is != (from == first) {
					t.Fatalf("%+v from %d to %d: %v", l, from, end, is)
				}
			}
		}
	})
}

func TestP7_1_PartOfTheLongest(t *testing.T) {
	low, high := leftward(number(1), api.Add, 7), rightward(number(1), api.Add, 7)
	for end := range api.MaxExpr {
		// In the low one each odd step pushes; in the high one the first eight do.
		if got, want := Part(low, end), end%2*end; got != want {
			t.Errorf("Part of the low one at %d = %d; want %d", end, got, want)
		}
		if got, want := Part(high, end), min(end, api.MaxExpr-1-end); got != want {
			t.Errorf("Part of the high one at %d = %d; want %d", end, got, want)
		}
	}
}

func TestP7_1_PartOfWrongExpressions(t *testing.T) {
	for _, l := range wrongExpressions() {
		for _, end := range append(outside(len(l)), 0, 1, 2, len(l)-1) {
			if got := Part(l, end); got != -1 {
				t.Errorf("Part(%+v, %d) = %d", l, end, got)
			}
		}
	}
}

// put tells l with one step in the place of those from first to end.
func put(l []api.Op, first, end int, op api.Op) []api.Op {
	return slices.Concat(l[:first], steps(op), l[end+1:])
}

// held holds l against P7.2: each part's value, pushed in its place, leaves what the whole comes to.
func held(t *testing.T, l []api.Op, b []api.Bind) {
	t.Helper()
	whole, told := Eval(l, b)
	for end := range l {
		first := Part(l, end)
		if first < 0 {
			t.Fatalf("Part(%+v, %d) = %d", l, end, first)
		}
		v, e := Eval(l[first:end+1], b)
		if e != api.OK {
			if told == api.OK {
				t.Errorf("%+v comes to %+v, but its part from %d to %d to the error %d", l, whole, first, end, e)
			}
			continue
		}
		changed := put(l, first, end, constant(v))
		if got, e := Eval(changed, b); e != told || got != whole {
			t.Errorf("%+v: %+v, %d, but with %+v from %d to %d: %+v, %d", l, whole, told, v, first, end, got, e)
		}
	}
}

func TestP7_2_APartStandsByItsValue(t *testing.T) {
	pushes, b := small()
	everyRight(pushes, 5, func(l []api.Op) { held(t, l, b) })
	everyRight(steps(variable("X"), variable("M"), number(-2)), 7, func(l []api.Op) { held(t, l, b) })
	for _, kind := range kinds() {
		held(t, leftward(variable("X"), kind, 7), b)
		held(t, rightward(variable("X"), kind, 7), b)
		held(t, rightward(variable("M"), kind, 7), b)
	}
}

// The other way round: a variable that has the value of a part may stand in its place too.
func TestP7_2_APartStandsByAVariable(t *testing.T) {
	_, b := small()
	everyRight(steps(variable("X"), variable("M"), number(-2)), 7, func(l []api.Op) {
		whole, told := Eval(l, b)
		for end := range l {
			first := Part(l, end)
			v, e := Eval(l[first:end+1], b)
			if e != api.OK {
				continue
			}
			with := append(slices.Clone(b), bind("Z", v))
			if got, e := Eval(put(l, first, end, variable("Z")), with); e != told || got != whole {
				t.Fatalf("%+v: %+v, %d, but with Z from %d to %d: %+v, %d", l, whole, told, first, end, got, e)
			}
		}
	})
}

// nil and empty are the same (R2).
func TestP7_1_NilIsEmpty(t *testing.T) {
	for _, b := range [][]api.Bind{nil, {}, many(3)[:0], {{}, {}}} {
		takeEval(t, steps(number(1)), b[:0], integer(1))
		refuseEval(t, steps(variable("X")), b[:0], api.ErrUnbound)
		for _, l := range [][]api.Op{nil, {}, {number(1)}, {variable("X")}} {
			refuseEval(t, l[:0], b[:0], api.ErrArg)
			if Check(l[:0]) != api.ErrArg || Part(l[:0], 0) != -1 || len(Vars(l[:0])) != 0 {
				t.Errorf("%+v is not taken as empty", l)
			}
		}
	}
}

// roomyOps and roomyBinds tell copies of what they are given, down to the bytes, with something in the spare room.
func roomyOps(l []api.Op) []api.Op {
	var out []api.Op
	for _, op := range slices.Concat(l, steps(variable("Spare"), do(api.Add), number(77), constant(str("spare")))) {
		op.Var, op.Val.S = strings.Clone(op.Var), strings.Clone(op.Val.S)
		out = append(out, op)
	}
	return out[:len(l)]
}

func roomyBinds(l []api.Bind) []api.Bind {
	var out []api.Bind
	for _, b := range slices.Concat(l, list(bind("Spare", str("spare")), bind("A", integer(77)))) {
		b.Var, b.Val.S = strings.Clone(b.Var), strings.Clone(b.Val.S)
		out = append(out, b)
	}
	return out[:len(l)]
}

// bounds is where a piece of memory begins and ends.
type bounds struct{ from, to uintptr }

func pieceOf[T any](first *T, count int) []bounds {
	var one T
	if count == 0 {
		return nil
	}
	from := uintptr(unsafe.Pointer(first))
	return []bounds{{from, from + uintptr(count)*unsafe.Sizeof(one)}}
}

func textOf(s string) []bounds { return pieceOf(unsafe.StringData(s), len(s)) }

func piecesOfArguments(l []api.Op, b []api.Bind) []bounds {
	all := append(pieceOf(unsafe.SliceData(l), cap(l)), pieceOf(unsafe.SliceData(b), cap(b))...)
	for _, op := range l[:cap(l)] {
		all = append(append(all, textOf(op.Var)...), textOf(op.Val.S)...)
	}
	for _, has := range b[:cap(b)] {
		all = append(append(all, textOf(has.Var)...), textOf(has.Val.S)...)
	}
	return all
}

func piecesOfNames(names []string) []bounds {
	all := pieceOf(unsafe.SliceData(names), cap(names))
	for _, s := range names[:cap(names)] {
		all = append(all, textOf(s)...)
	}
	return all
}

func apart(t *testing.T, name string, a, b []bounds) {
	t.Helper()
	for _, p := range a {
		for _, q := range b {
			if p.from < q.to && q.from < p.to {
				t.Errorf("%s: memory is shared", name)
			}
		}
	}
}

// some tells expressions that come to something, that do not, and that are wrong.
func some() [][]api.Op {
	return [][]api.Op{
		steps(constant(str("hello"))),
		steps(constant(sym("hello"))),
		steps(variable("Beta")),
		steps(variable("Delta")),
		steps(variable("Alpha")),
		steps(variable("Alpha"), number(2), do(api.Mul), variable("Alpha"), do(api.Sub)),
		steps(variable("Alpha"), variable("Beta"), do(api.Add)),
		steps(variable("Alpha"), variable("Gamma"), do(api.Add)),
		steps(number(api.Most), variable("Alpha"), do(api.Add)),
		rightward(variable("Alpha"), api.Add, 7),
		steps(variable("Alpha"), variable("Beta")),
		steps(variable("alpha"), api.Op{Kind: 9, Var: "Beta", Val: str("x")}),
		nil,
	}
}

// What is handed in is not changed, what is answered is new memory, and spare room is not read (R2, R6).
func TestP7_1_MemoryIsItsOwn(t *testing.T) {
	given := list(bind("Alpha", integer(5)), bind("Beta", str("xyz")), bind("Delta", sym("pqr")))
	for i, plain := range some() {
		l, b := roomyOps(plain), roomyBinds(given)
		before := fmt.Sprintf("%#v", []any{l[:cap(l)], b[:cap(b)]})
		v, e := Eval(l, b)
		names := Vars(l)
		if want, told := Eval(plain, given); v != want || e != told || Check(l) != Check(plain) || !slices.Equal(names, Vars(plain)) {
			t.Errorf("%d: spare room is read: %+v, %d", i, v, e)
		}
		for end := range cap(l) {
			if Part(l, end) != Part(slices.Clip(slices.Clone(plain)), end) {
				t.Errorf("%d: Part reads spare room at %d", i, end)
			}
		}
		if after := fmt.Sprintf("%#v", []any{l[:cap(l)], b[:cap(b)]}); after != before {
			t.Errorf("%d: %s was changed to %s", i, before, after)
		}
		apart(t, fmt.Sprintf("%d Eval", i), textOf(v.S), piecesOfArguments(l, b))
		apart(t, fmt.Sprintf("%d Vars", i), piecesOfNames(names), piecesOfArguments(l, b))
	}
}

// The names that Vars answers share no bytes with one another, though those that were handed in did.
func TestP7_1_VarsAreApart(t *testing.T) {
	text := strings.Repeat("Long", 3)
	names := Vars(steps(variable(text), variable(text[:8]), variable(text[:4])))
	if !slices.Equal(names, []string{text, text[:8], text[:4]}) {
		t.Fatalf("%q", names)
	}
	apart(t, "the first and the second", textOf(names[0]), textOf(names[1]))
	apart(t, "the first and the third", textOf(names[0]), textOf(names[2]))
	apart(t, "the second and the third", textOf(names[1]), textOf(names[2]))
}

// What is answered hangs on the arguments alone (R3).
func TestP7_1_TwiceTheSame(t *testing.T) {
	b := list(bind("Alpha", integer(5)), bind("Beta", str("xyz")))
	for _, l := range some() {
		first, e := Eval(l, b)
		for _, other := range some() {
			Eval(other, nil)
			Vars(other)
			Part(other, 0)
			if second, d := Eval(l, b); first != second || e != d {
				t.Errorf("Eval(%+v) = %+v, %d, then %+v, %d", l, first, e, second, d)
			}
		}
	}
}

// Any bytes are laid as steps: right just if they are a tree of right steps, and then P7.2 holds.
func FuzzP7_2(f *testing.F) {
	f.Add([]byte{0, 2, 5}, "X", 3, "a")
	f.Add([]byte{0, 0, 0, 7, 6, 3}, "X", api.Most, "")
	f.Add([]byte{1, 8, 9}, "x", api.Least, "A")
	f.Fuzz(func(t *testing.T, text []byte, name string, n int, s string) {
		choices := steps(variable("X"), variable(name), number(2), number(n), constant(sym(s)), do(api.Mul), do(api.Add), do(api.Sub), variable("Y"), api.Op{Kind: n, Var: name})
		var l []api.Op
		for _, c := range text {
			l = append(l, choices[int(c)%len(choices)])
		}
		b := list(bind("X", integer(3)))
		Vars(l)
		v, e := Eval(l, b)
		if Check(l) != api.OK {
			if e != api.ErrArg || v != (api.Value{}) || Part(l, len(l)-1) != -1 {
				t.Errorf("%+v is wrong, but: %+v, %d", l, v, e)
			}
			return
		}
		if len(l) > api.MaxExpr || tree(l) != 0 {
			t.Fatalf("Check took %+v", l)
		}
		if want, _, told := plainEval(l, b); v != want || e != told {
			t.Errorf("Eval(%+v) = %+v, %d; want %+v, %d", l, v, e, want, told)
		}
		held(t, l, b)
	})
}
