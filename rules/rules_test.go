package rules

import (
	"fmt"
	"math/rand"
	"slices"
	"strings"
	"testing"
	"unsafe"

	"constable/api"
	"constable/lex"
)

func rightValues() []api.Value {
	return []api.Value{
		num(0), num(1), num(-1), num(api.Most), num(api.Least), sym("a"), sym("not"), sym("drop"), sym("rule"), sym("aB_1"), sym(strings.Repeat("z", api.MaxName)),
		str(""), str("a"), str("X"), str(`"`), str(`\`), str(`a"b\c`), str("a, b) -> % ("), str(strings.Repeat("~", api.MaxStr)), str(strings.Repeat(`\`, api.MaxStr)),
	}
}

func rightTerms() []api.Term {
	var l []api.Term
	for _, v := range rightValues() {
		l = append(l, constant(v))
	}
	for _, name := range []string{"X", "A", "Z", "X1_y", "Not", strings.Repeat("Z", api.MaxName)} {
		l = append(l, variable(name))
	}
	return l
}

func wrongValues() []api.Value {
	return []api.Value{
		{}, {Kind: -1}, {Kind: api.Str + 1}, {N: 1}, {S: "a"}, num(api.Most + 1), num(api.Least - 1), {Kind: api.Int, S: "a"}, sym(""), sym("A"), sym("a b"),
		{Kind: api.Sym, N: 1, S: "a"}, sym(strings.Repeat("a", api.MaxName+1)), str("\n"), str("\xff"), {Kind: api.Str, N: 1}, str(strings.Repeat("a", api.MaxStr+1)),
	}
}

func wrongTerms() []api.Term {
	var l []api.Term
	for _, v := range wrongValues() {
		l = append(l, constant(v))
	}
	for _, name := range []string{"x", "_X", "1", " ", "X ", "X-", "É", strings.Repeat("X", api.MaxName+1)} {
		l = append(l, variable(name))
	}
	return append(l, api.Term{Var: "X", Val: num(1)}, api.Term{Var: "X", Val: api.Value{N: 1}})
}

func rightNames() []string {
	return []string{"p", "a", "z", "nots", "no", "rules", "dropped", "p1_Q", "aND", strings.Repeat("q", api.MaxName)}
}

func wrongNames() []string {
	return append(words(), "", "P", "X", "_p", "1", "p ", " p", "p(", "p\x00", "é", "pé", "\xff", strings.Repeat("q", api.MaxName+1), strings.Repeat("q", 100000))
}

func wrongAtoms() []api.Atom {
	l := []api.Atom{{}, atom("", variable("X"))}
	for _, name := range wrongNames() {
		l = append(l, atom(name), atom(name, variable("X")))
	}
	for _, x := range wrongTerms() {
		l = append(l, atom("p", x), atom("p", variable("X"), x), atom("p", variable("X"), x, variable("X"), x, variable("X")), atom("p", append(slices.Repeat([]api.Term{variable("X")}, 4), x)...))
	}
	for _, count := range []int{6, 7, 100000} {
		l = append(l, atom("p", slices.Repeat([]api.Term{variable("X")}, count)...))
	}
	return l
}

// leftward and rightward tell right expressions of 2*n+1 steps, if n is at most 7: those with the lowest and with the highest stack.
func leftward(push api.Op, kind, n int) []api.Op {
	return append(steps(push), slices.Repeat(steps(push, do(kind)), n)...)
}

func rightward(push api.Op, kind, n int) []api.Op {
	return append(slices.Repeat(steps(push), n+1), slices.Repeat(steps(do(kind)), n)...)
}

func rightExprs() [][]api.Op {
	var l [][]api.Op
	for _, x := range rightTerms() {
		push := pushVal(x.Val)
		if x.Var != "" {
			push = pushVar(x.Var)
		}
		l = append(l, steps(push), steps(push, pushVal(num(-2)), do(api.Sub)))
	}
	for _, kind := range doings() {
		for n := 1; n <= 7; n++ {
			l = append(l, leftward(pushVar("X"), kind, n), rightward(pushVal(num(-1)), kind, n))
		}
	}
	return append(l, steps(pushVar("A"), pushVar("B"), do(api.Add), pushVar("C"), pushVar("D"), do(api.Sub), do(api.Mul)))
}

func wrongExprs() [][]api.Op {
	one := pushVal(num(1))
	l := [][]api.Op{
		nil, {}, {{}}, {do(api.Add)}, {one, one}, {one, do(api.Add)}, {do(api.Mul), one, one}, {one, one, do(api.Add), do(api.Add), one}, {one, one, do(0)}, {one, one, do(api.Mul + 1)},
		{one, one, {Kind: api.Add, Var: "X"}}, {one, one, {Kind: api.Sub, Val: num(1)}}, {{Kind: api.PushVal, Var: "X", Val: num(1)}}, leftward(one, api.Add, 8), rightward(one, api.Sub, 8), slices.Repeat(steps(one), 100000),
	}
	for _, x := range wrongTerms() {
		if x.Var != "" {
			l = append(l, steps(api.Op{Kind: api.PushVar, Var: x.Var, Val: x.Val}))
		} else {
			l = append(l, steps(pushVal(x.Val)))
		}
	}
	return l
}

// rightRules tells a right rule for each name, Prio, term, expression and count of things that are right.
func rightRules() []api.Rule {
	all := []api.Rule{base(), small()}
	add := func(change func(*api.Rule)) {
		r := base()
		change(&r)
		all = append(all, r)
	}
	for _, name := range rightNames() {
		add(func(r *api.Rule) {
			r.Name, r.Conds[0].Atom.Name, r.Conds[1].Atom.Name, r.Acts[2].Name = name, name, name, name
		})
	}
	for _, prio := range []int{-1000, -999, -1, 0, 1, 7, 10, 999, 1000} {
		add(func(r *api.Rule) { r.Prio = prio })
	}
	for _, x := range rightTerms() {
		for count := 1; count <= api.MaxArgs; count++ {
			args := slices.Repeat([]api.Term{x}, count)
			add(func(r *api.Rule) { r.Conds[0].Atom.Args, r.Conds[1].Atom.Args = args, args[1:] })
		}
	}
	for i, x := range rightExprs() {
		y := rightExprs()[(i*7+3)%len(rightExprs())]
		for _, how := range hows() {
			add(func(r *api.Rule) { r.Conds[2] = compare(x, how, y) })
		}
		for count := range api.MaxArgs + 1 {
			add(func(r *api.Rule) {
				r.Acts[0].Args = append(slices.Repeat([][]api.Op{y}, count), x)[:count]
				r.Acts[2].Args = append(slices.Repeat([][]api.Op{x}, count), y)[:count]
			})
		}
	}
	for count := range api.MaxConds {
		for _, c := range base().Conds {
			r := base()
			r.Conds = append(conds(r.Conds[0]), slices.Repeat(conds(c), count)...)
			r.Acts = slices.Repeat(acts(r.Acts[0], retract(0)), 3)[:count+1]
			all = append(all, r)
		}
	}
	return append(all, retracting()...)
}

// retracting tells rules with Has conditions at all places, each with each act that takes back what one of them matched.
func retracting() []api.Rule {
	var all []api.Rule
	for kinds := range 1 << (api.MaxConds - 1) {
		r := base()
		r.Conds = r.Conds[:1]
		found := 1
		for i := range api.MaxConds - 1 {
			if kinds>>i&1 == 1 {
				r.Conds = append(r.Conds, has(atom("h", variable("X"))))
				found++
			} else {
				r.Conds = append(r.Conds, base().Conds[1+i%2])
			}
		}
		r.Acts = nil
		for which := range found {
			r.Acts = append(r.Acts, retract(which))
		}
		all = append(all, r)
	}
	return all
}

func holdRight(t *testing.T, r api.Rule) {
	t.Helper()
	if e := Check(r); e != api.OK {
		t.Errorf("Check(%v) = %v", short(r), e)
	}
	want := plainText(r)
	if text, e := Text(r); text != want || e != api.OK {
		t.Errorf("Text(%v) = %q, %v; want %q", short(r), text, e, want)
	}
}

func holdWrong(t *testing.T, r api.Rule) {
	t.Helper()
	if e := Check(r); e != api.ErrArg {
		t.Errorf("Check(%v) = %v", short(r), e)
	}
	if text, e := Text(r); text != "" || e != api.ErrArg {
		t.Errorf("Text(%v) = %q, %v", short(r), text, e)
	}
}

func TestP11_1_ExampleOfTheChapter(t *testing.T) {
	const text = "rule a 0: p(X), not q(X), [X < 3] -> +r((X + 1)), drop 0."
	x := variable("X")
	want := api.Rule{
		Name:  "a",
		Conds: conds(has(atom("p", x)), not(atom("q", x)), compare(steps(pushVar("X")), api.Lt, steps(pushVal(num(3))))),
		Acts:  acts(assert("r", steps(pushVar("X"), pushVal(num(1)), do(api.Add))), retract(0)),
	}
	if r, e := Parse(text); !same(r, want) || e != api.OK {
		t.Errorf("%v, %v", r, e)
	}
	if s, e := Text(want); s != text || e != api.OK {
		t.Errorf("%q, %v", s, e)
	}
}

// Texts written out, so that the plain means of the tests are held too.
func TestP11_1_TextsWrittenOut(t *testing.T) {
	r := base()
	for text, change := range map[string]func(){
		"rule a 5: p(X), not q(X, 1), [(X * 2) < 3], z -> +r((X + 1), b), drop 1, +s.": func() {},
		"rule a -1000: p -> drop 0.": func() { r = api.Rule{Name: "a", Prio: -1000, Conds: conds(has(atom("p"))), Acts: acts(retract(0))} },
		"rule b 0: p, not p, [1 = a], [-1 != \"\"], [X <= Y] -> +r(-1).": func() {
			r.Name, r.Prio = "b", 0
			one, minus := steps(pushVal(num(1))), steps(pushVal(num(-1)))
			r.Conds = conds(has(atom("p")), not(atom("p")), compare(one, api.Eq, steps(pushVal(sym("a")))), compare(minus, api.Ne, steps(pushVal(str("")))), compare(steps(pushVar("X")), api.Le, steps(pushVar("Y"))))
			r.Acts = acts(assert("r", minus))
		},
	} {
		r = base()
		change()
		if s, e := Text(r); s != text || e != api.OK || plainText(r) != text {
			t.Errorf("%q, %v; plainly %q; want %q", s, e, plainText(r), text)
		}
		if s, e := Parse(text); !same(s, r) || e != api.OK {
			t.Errorf("%v, %v; want %v", s, e, r)
		}
	}
}

func TestP11_1_RightRules(t *testing.T) {
	for _, r := range rightRules() {
		holdRight(t, r)
	}
}

func TestP11_1_WrongHeads(t *testing.T) {
	holdWrong(t, api.Rule{})
	for _, change := range []func(*api.Rule){
		func(r *api.Rule) { r.Conds = nil },
		func(r *api.Rule) { r.Conds = conds() },
		func(r *api.Rule) { r.Acts = nil },
		func(r *api.Rule) { r.Acts = acts() },
		func(r *api.Rule) { r.Conds = slices.Repeat(r.Conds[:1], 7) },
		func(r *api.Rule) { r.Conds = slices.Repeat(r.Conds, 100000) },
		func(r *api.Rule) { r.Acts = slices.Repeat(r.Acts[:1], 7) },
		func(r *api.Rule) { r.Acts = slices.Repeat(r.Acts, 100000) },
		func(r *api.Rule) { r.Conds = r.Conds[1:] },
		func(r *api.Rule) { r.Conds = r.Conds[2:] },
		func(r *api.Rule) { r.Conds[0] = api.Cond{} },
	} {
		r := base()
		change(&r)
		holdWrong(t, r)
	}
	for _, name := range wrongNames() {
		r := base()
		r.Name = name
		holdWrong(t, r)
	}
	for _, prio := range []int{-1001, 1001, -1002, 1002, api.Least, api.Most, -1 << 63, 1<<63 - 1, 1<<32 + 5} {
		r := base()
		r.Prio = prio
		holdWrong(t, r)
	}
}

// eachWrongCond tells wrong conditions of each kind.
func eachWrongCond(tell func(api.Cond)) {
	one := steps(pushVal(num(1)))
	p := atom("p")
	for _, kind := range []int{api.Has, api.Not} {
		for _, a := range wrongAtoms() {
			tell(api.Cond{Kind: kind, Atom: a})
		}
		for _, how := range []int{-1, api.Eq, api.Ne, api.Lt, api.Le, 5} {
			tell(api.Cond{Kind: kind, Atom: p, How: how})
		}
		tell(api.Cond{Kind: kind, Atom: p, Left: one})
		tell(api.Cond{Kind: kind, Atom: p, Right: one})
		tell(api.Cond{Kind: kind, Atom: p, Left: []api.Op{{}}})
		tell(api.Cond{Kind: kind, Atom: p, Right: []api.Op{{}}})
		tell(api.Cond{Kind: kind, How: api.Eq, Left: one, Right: one})
	}
	for _, kind := range []int{-1, 0, 4, 5, 1 << 62, -1 << 63} {
		tell(api.Cond{Kind: kind})
		tell(api.Cond{Kind: kind, Atom: p})
		tell(api.Cond{Kind: kind, How: api.Eq, Left: one, Right: one})
	}
	for _, how := range []int{-1, 0, 5, 1 << 62} {
		tell(compare(one, how, one))
	}
	for _, x := range wrongExprs() {
		tell(compare(x, api.Eq, one))
		tell(compare(one, api.Le, x))
	}
	tell(api.Cond{Kind: api.Guard, Atom: p, How: api.Eq, Left: one, Right: one})
	tell(api.Cond{Kind: api.Guard, Atom: api.Atom{Args: []api.Term{variable("X")}}, How: api.Eq, Left: one, Right: one})
	tell(api.Cond{Kind: api.Guard, Atom: p})
}

func TestP11_1_WrongConditions(t *testing.T) {
	eachWrongCond(func(c api.Cond) {
		for place := range 4 {
			r := base()
			r.Conds[place] = c
			holdWrong(t, r)
		}
		r := base()
		r.Conds = append(slices.Repeat(r.Conds[:1], 5), c)
		holdWrong(t, r)
	})
}

// eachWrongAct tells acts that are wrong in a rule of two Has conditions.
func eachWrongAct(tell func(api.Act)) {
	one := steps(pushVal(num(1)))
	for _, name := range wrongNames() {
		tell(assert(name))
		tell(assert(name, one))
	}
	for _, x := range wrongExprs() {
		for count := 1; count <= api.MaxArgs; count++ {
			for place := range count {
				tell(assert("r", with(slices.Repeat([][]api.Op{one}, count), place, x)...))
			}
		}
	}
	for _, count := range []int{6, 7, 100000} {
		tell(assert("r", slices.Repeat([][]api.Op{one}, count)...))
		tell(assert("r", make([][]api.Op, count)...))
	}
	for _, which := range []int{-1, 1, 2, 1 << 62} {
		tell(api.Act{Kind: api.Assert, Name: "r", Which: which})
		tell(api.Act{Kind: api.Assert, Name: "r", Args: [][]api.Op{one}, Which: which})
	}
	for _, which := range []int{-1, -2, 2, 3, 4, 1 << 62, -1 << 63} {
		tell(retract(which))
	}
	tell(api.Act{Kind: api.Retract, Name: "r"})
	tell(api.Act{Kind: api.Retract, Args: [][]api.Op{one}})
	tell(api.Act{Kind: api.Retract, Args: [][]api.Op{nil}})
	for _, kind := range []int{-1, 0, 3, 4, 1 << 62, -1 << 63} {
		tell(api.Act{Kind: kind})
		tell(api.Act{Kind: kind, Name: "r"})
		tell(api.Act{Kind: kind, Name: "r", Args: [][]api.Op{one}})
	}
}

func TestP11_1_WrongActs(t *testing.T) {
	eachWrongAct(func(a api.Act) {
		for place := range 3 {
			r := base()
			r.Acts[place] = a
			holdWrong(t, r)
		}
		r := base()
		r.Acts = append(slices.Repeat(r.Acts[:1], 5), a)
		holdWrong(t, r)
	})
}

// A Which counts the Has conditions alone, wherever they stand.
func TestP11_1_WhichCountsHasConditions(t *testing.T) {
	for _, r := range retracting() {
		found := len(r.Acts)
		for _, which := range []int{-1, found, found + 1, 100} {
			for place := range found {
				wrong := r
				wrong.Acts = with(r.Acts, place, retract(which))
				holdWrong(t, wrong)
			}
		}
	}
}

// nil and empty are the same (R2).
func TestP11_1_NilIsEmpty(t *testing.T) {
	for _, spare := range []int{0, 3} {
		r := base()
		noTerms, noSteps, noArgs := make([]api.Term, 0, spare), make([]api.Op, 0, spare), make([][]api.Op, 0, spare)
		r.Conds[0] = api.Cond{Kind: api.Has, Atom: api.Atom{Name: "p", Args: noTerms}, Left: noSteps, Right: noSteps}
		r.Conds[2].Atom.Args = noTerms
		r.Acts[1].Args = noArgs
		r.Acts[2].Args = noArgs
		holdRight(t, r)
		if want := "rule a 5: p, not q(X, 1), [(X * 2) < 3], z -> +r((X + 1), b), drop 1, +s."; plainText(r) != want {
			t.Errorf("%q", plainText(r))
		}
	}
	for _, l := range [][]api.Token{nil, {}, signsOf(t, "rule")} {
		holdRead(t, l[:0], 0)
	}
}

// lengthy tells a right rule whose text has so many bytes: most of them in strings, which are all as long as can be up to the one at which it comes out even.
func lengthy(t *testing.T, count int) api.Rule {
	t.Helper()
	r := api.Rule{Name: "a", Conds: conds(has(atom("p")))}
	for range api.MaxActs {
		act := assert("r")
		for range api.MaxArgs {
			act.Args = append(act.Args, rightward(pushVal(str("")), api.Add, 7))
		}
		r.Acts = append(r.Acts, act)
	}
	left := count - len(plainText(r))
	for _, a := range r.Acts {
		for _, x := range a.Args {
			for i := range 8 {
				escaped := min(left, 2*api.MaxStr)
				x[i] = pushVal(str(strings.Repeat(`\`, escaped/2) + strings.Repeat("x", escaped%2)))
				left -= escaped
			}
		}
	}
	if got := len(plainText(r)); got != count {
		t.Fatalf("a rule of %d bytes, not of %d", got, count)
	}
	return r
}

func TestP11_1_TextsThatAreTooLong(t *testing.T) {
	for _, count := range []int{10000, 19998, 19999, api.MaxText} {
		r := lengthy(t, count)
		holdRight(t, r)
		if back, e := Parse(plainText(r)); !same(back, r) || e != api.OK {
			t.Errorf("a rule of %d bytes is read as %v, %v", count, short(back), e)
		}
	}
	for _, count := range []int{api.MaxText + 1, api.MaxText + 2, 25000, 30000} {
		r := lengthy(t, count)
		if text, e := Text(r); text != "" || e != api.ErrLen || Check(r) != api.OK {
			t.Errorf("a rule of %d bytes: %q, %v, %v", count, short(text), e, Check(r))
		}
		// That it is wrong is told first.
		r.Prio = 1001
		holdWrong(t, r)
	}
}

// Places beyond the list are refused ahead of all else, with no place told.
func TestP11_1_PlacesBeyondTheList(t *testing.T) {
	for _, l := range [][]api.Token{nil, {}, {{}}, signsOf(t, "rule"), signsOf(t, plainText(base())), signsOf(t, "rule a 1001: p -> +r.")} {
		for _, at := range []int{-1, -2, -1 << 62, -1 << 63, len(l) + 1, len(l) + 2, 1 << 40, 1<<63 - 1} {
			if r, next, e := Read(l, at); !isZero(r) || next != 0 || e != api.ErrArg {
				t.Errorf("Read(%v, %d) = %v, %d, %v", l, at, r, next, e)
			}
		}
		if r, next, e := Read(l, len(l)); !isZero(r) || next != len(l) || e != api.ErrText {
			t.Errorf("Read(%v) at its end = %v, %d, %v", l, r, next, e)
		}
	}
}

// rightSigns tells one sign of each letter, and some that may stand nowhere.
func rightSigns() []api.Token {
	l := []api.Token{token(api.TokVar, "X"), token(api.TokNum, "-1"), token(api.TokNum, "007"), token(api.TokNum, "1001"), token(api.TokStr, `"\""`)}
	for _, s := range strings.Fields("p rule not drop once") {
		l = append(l, token(api.TokName, s))
	}
	for _, s := range strings.Fields("( ) [ ] , . : / + * - = != < <= -> =>") {
		l = append(l, token(api.TokSign, s))
	}
	return l
}

// eachList tells all lists that go on from a beginning by up to so many of the signs.
func eachList(l, signs []api.Token, most int, tell func([]api.Token)) {
	tell(l)
	if most == 0 {
		return
	}
	for _, x := range signs {
		eachList(slices.Concat(l, []api.Token{x}), signs, most-1, tell)
	}
}

// few tells signs of their texts.
func few(t *testing.T, texts string) []api.Token {
	t.Helper()
	var l []api.Token
	for _, s := range strings.Fields(texts) {
		l = append(l, signsOf(t, s)...)
	}
	return l
}

func TestP11_1_AllShortLists(t *testing.T) {
	for _, ahead := range []string{"", "rule a 1", "rule a 1: p", "rule a 1: p, [1 <", "rule a 1: p -> +r", "rule a 1: p -> +r(1", "rule a 1: p -> drop 0"} {
		eachList(signsOf(t, ahead), rightSigns(), 3, func(l []api.Token) { holdRead(t, l, 0) })
	}
	eachList(signsOf(t, "rule a 1:"), few(t, "p not X ( ) , ->"), 6, func(l []api.Token) { holdRead(t, l, 0) })
	eachList(signsOf(t, "rule a 1: p, ["), few(t, "X ( ) + <= ] ["), 6, func(l []api.Token) { holdRead(t, l, 0) })
	eachList(signsOf(t, "rule a 1: p ->"), few(t, "p drop 0 ( ) + , ."), 6, func(l []api.Token) { holdRead(t, l, 0) })
}

// longTexts tells texts of rules, right ones and others whose signs fit, and the like.
func longTexts() []string {
	return []string{
		plainText(base()), plainText(small()),
		`rule a 0: p(X), not q(X), [X < 3] -> +r((X + 1)), drop 0.`,
		`rule b 007: p(not, drop, "a", -1), [((X - 1) * "b") != (Y + 2)] -> +r(rule, (1 * (X - Y)), not), +s.`,
		"rule c -1: p, p, p, p, p, p -> drop 0, drop 1, drop 2, drop 3, drop 4, drop 5.",
		"rule c 1001: p, p, not q(1, 2, 3, 4, 5, 6) -> +s(1, 2, 3, 4, 5, 6), drop 3.",
		"rule d 0: p, [" + deep(8) + " = " + wide(9) + "] -> +r(" + wide(10) + "), drop 0.",
		"rule e 0: not p, p, [1 = 1], p, p, p, p -> +r, +r, +r, +r, +r, drop 5, drop 6.",
		"rule f 0: p -> +r. rule g 0: q -> +r.",
	}
}

// deep and wide tell texts of expressions of so many brackets: all in one another, or as few in one another as can be.
func deep(count int) string {
	return strings.Repeat("(", count) + "X" + strings.Repeat(" + 1)", count)
}

func wide(count int) string {
	if count == 0 {
		return "1"
	}
	return "(" + wide((count-1)/2) + " - " + wide(count-1-(count-1)/2) + ")"
}

// Long lists with one sign left out, put in or put in another's place.
func TestP11_1_EachSignOfLongLists(t *testing.T) {
	for _, text := range longTexts() {
		l := signsOf(t, text)
		for i := range l {
			holdRead(t, l, i)
			holdRead(t, l[:i], 0)
			holdRead(t, without(l, i), 0)
			for _, x := range rightSigns() {
				holdRead(t, with(l, i, x), 0)
				holdRead(t, wedged(l, i, x), 0)
			}
		}
	}
}

// From wherever a rule begins, each place told is one of the whole list.
func TestP11_1_PlacesAreOfTheWholeList(t *testing.T) {
	for _, ahead := range []string{"x", "rule", "rule a", "rule a 0 :", "( ( (", plainText(small())} {
		from := len(signsOf(t, ahead))
		for _, text := range longTexts() {
			l := signsOf(t, ahead+" "+text)
			for i := from; i <= len(l); i++ {
				holdRead(t, l[:i], from)
				if i < len(l) {
					holdRead(t, with(l, i, token(api.TokSign, "=>")), from)
				}
			}
		}
	}
}

// Pairs of signs put in other signs' places: the first fault is told.
func TestP11_1_PairsOfFaults(t *testing.T) {
	signs := few(t, "p not X -1 007 ( ) [ ] , . : + = ->")
	l := signsOf(t, "rule a 1: p(X), [1 = 2] -> +r(1), drop 0.")
	for i := range l {
		for j := range i {
			for _, x := range signs {
				for _, y := range signs {
					holdRead(t, with(with(l, i, x), j, y), 0)
				}
			}
		}
	}
}

// oddSigns tells texts under each kind, of their own one and of others: few of them are signs that a text may have.
func oddSigns() []api.Token {
	texts := []string{
		"", " ", "a", "not", "rule", "drop", "rule ", " rule", "Rule", "not\n", "X", "1", "-1", "00", "-0", `"a"`, `""`, "(", ")", ",", ".", ":", "[", "]", "+", "-", "*", "=", "!=", "<", "<=", "->", "=>", "/", "((", "()", "->.", "==", "<>", ">", "!", "a b", "a ", " a", "a%", "%", "é", "_", "\x00", "\xff", "a\x00",
		"X ", "X-1", "1 ", " 1", "+1", "--1", "1_0", "0x1", "1.0", "4611686018427387904", "-4611686018427387904", "4611686018427387905", "-4611686018427387905", "9223372036854775807", "18446744073709551616", strings.Repeat("9", 1000), strings.Repeat("0", 1000) + "7",
		`"`, `"a`, `"a" `, `"a""b"`, `"\n"`, "\"\n\"", `"` + strings.Repeat("x", 60) + `"`, `"` + strings.Repeat("x", 61) + `"`,
		strings.Repeat("a", 24), strings.Repeat("a", 25), strings.Repeat("X", 24), strings.Repeat("X", 25), strings.Repeat("a", 20001), strings.Repeat("(", 20001),
	}
	var l []api.Token
	for kind := -1; kind <= api.TokSign+1; kind++ {
		for _, text := range texts {
			l = append(l, token(kind, text))
		}
	}
	return l
}

// Signs that no text has fit nowhere; those that one has fit by their kind.
func TestP11_1_OddSigns(t *testing.T) {
	for _, text := range []string{"rule a 1: p(X), not q, [X <= (2 - 1)] -> +r(1, X), drop 0, +s."} {
		l := signsOf(t, text)
		for i := range l {
			for _, x := range oddSigns() {
				holdRead(t, with(l, i, x), 0)
			}
		}
	}
}

// The place of a sign within its text does not count.
func TestP11_1_PlacesOfSignsDoNotCount(t *testing.T) {
	l := signsOf(t, plainText(base()))
	for i := range l {
		l[i].At = api.Pos{Line: -i, Col: 7}
	}
	holdRead(t, l, 0)
}

// reads and refuses hold the place behind the rule that is read, or the place at which none is.
func reads(t *testing.T, text string, at, behind int) api.Rule {
	t.Helper()
	r, next, e := Read(signsOf(t, text), at)
	if isZero(r) || next != behind || e != api.OK {
		t.Errorf("Read(%q, %d) = %v, %d, %v; want one up to %d", short(text), at, short(r), next, e, behind)
	}
	return r
}

func refuses(t *testing.T, text string, at, place int) {
	t.Helper()
	if r, next, e := Read(signsOf(t, text), at); !isZero(r) || next != place || e != api.ErrText {
		t.Errorf("Read(%q, %d) = %v, %d, %v; want none, at %d", short(text), at, short(r), next, e, place)
	}
}

func TestP11_1_NumbersOfRules(t *testing.T) {
	zeros := strings.Repeat("0", 5000)
	for text, prio := range map[string]int{"0": 0, "-0": 0, "00": 0, "7": 7, "007": 7, "-007": -7, "010": 10, "-1": -1, "1000": 1000, "-1000": -1000, "0001000": 1000, zeros + "5": 5} {
		if r := reads(t, "rule a "+text+": p -> +r.", 0, 9); r.Prio != prio {
			t.Errorf("Prio %q is read as %d", short(text), r.Prio)
		}
	}
	for _, text := range []string{"1001", "-1001", "001001", "4611686018427387904", "-4611686018427387904"} {
		refuses(t, "rule a "+text+": p -> +r.", 0, 0)
		refuses(t, "x rule a "+text+": p -> +r.", 1, 1)
		refuses(t, "rule a "+text+": p -> +r", 0, 8)
	}
	for text, which := range map[string]int{"0": 0, "-0": 0, "000": 0, "1": 1, "01": 1, zeros: 0} {
		if r := reads(t, "rule a 0: p, not p, p -> drop "+text+".", 0, 14); r.Acts[0].Which != which {
			t.Errorf("Which %q is read as %d", short(text), r.Acts[0].Which)
		}
	}
	for _, text := range []string{"2", "02", "3", "4611686018427387904"} {
		refuses(t, "rule a 0: p, not p, p -> drop "+text+".", 0, 0)
		refuses(t, "rule a 0: p, not p, p -> drop "+text, 0, 13)
	}
	for _, text := range []string{"-1", "-01", "-4611686018427387904", "X", "a", `"0"`, "(0)", "+0", "."} {
		refuses(t, "rule a 0: p, not p, p -> drop "+text+".", 0, 12)
	}
	for _, text := range []string{"X", "a", `"0"`, "(0)", "(0 + 1)", "+ 0", ":"} {
		refuses(t, "rule a "+text+": p -> +r.", 0, 2)
	}
}

// A rule's name, an atom's and a fact's are no words; a symbol may be one.
func TestP11_1_WordsAreNoNames(t *testing.T) {
	for _, word := range words() {
		refuses(t, "rule "+word+" 0: p -> +r.", 0, 1)
		refuses(t, "rule a 0: p, not "+word+" -> +r.", 0, 7)
		refuses(t, "rule a 0: p -> +"+word+".", 0, 7)
		refuses(t, "rule a 0: p -> +"+word+"(1).", 0, 7)
		reads(t, "rule a 0: p("+word+"), ["+word+" = 1] -> +r("+word+").", 0, 21)
		if word != "not" {
			refuses(t, "rule a 0: "+word+" -> +r.", 0, 4)
			refuses(t, "rule a 0: p, "+word+"(1) -> +r.", 0, 6)
		}
		if word != "drop" {
			refuses(t, "rule a 0: p -> "+word+" 0.", 0, 6)
		}
		if word != "rule" {
			refuses(t, word+" a 0: p -> +r.", 0, 0)
		}
	}
	reads(t, "rule rules 0: nots -> +dropped.", 0, 9)
}

// Each sign fits, but the rule is not right: the place where it begins. One does not: that place, even far behind.
func TestP11_1_WrongAsAWhole(t *testing.T) {
	terms := "X" + strings.Repeat(", X", 5)
	for _, most := range []string{
		"rule a 1001: p -> +r", "rule a -1001: p -> +r", "rule a 0: not p -> +r", "rule a 0: not p, p -> drop 0", "rule a 0: [1 = 1] -> +r", "rule a 0: [1 = 1], p -> +r",
		"rule a 0: p -> drop 1", "rule a 0: p, not p, [1 = 1] -> drop 1", "rule a 0: p, p -> +r, drop 2, +r", "rule a 0: p" + strings.Repeat(", p", 6) + " -> +r", "rule a 0: p" + strings.Repeat(", not p", 6) + " -> +r", "rule a 0: p" + strings.Repeat(", [1 = 1]", 6) + " -> +r",
		"rule a 0: p -> +r" + strings.Repeat(", +r", 6), "rule a 0: p -> drop 0" + strings.Repeat(", drop 0", 6), "rule a 0: p(" + terms + ") -> +r", "rule a 0: p, not p(" + terms + "), p -> +r", "rule a 0: p -> +r(" + terms + ")", "rule a 0: p -> +r(1), +r(" + terms + "), drop 0",
		"rule a 0: p(X" + strings.Repeat(", 1", 2000) + ") -> +r", "rule a 0: p, [" + deep(8) + " = 1] -> +r", "rule a 0: p, [1 <= " + deep(15) + "], p -> +r", "rule a 0: p -> +r(" + wide(8) + ")", "rule a 0: p -> +r(1, " + wide(1000) + ", 2), drop 0",
	} {
		last := len(signsOf(t, most))
		for _, behind := range []string{".", ". x", ". .", ". rule a 0: p -> +r."} {
			refuses(t, most+behind, 0, 0)
			refuses(t, "x ( "+most+behind, 2, 2)
		}
		for _, behind := range []string{"", ":", " not", "->", " 0", ")", "]", " p .", "-> +r."} {
			refuses(t, most+behind, 0, last)
			refuses(t, "x ( "+most+behind, 2, 2+last)
		}
		refuses(t, most+",.", 0, last+1)
		refuses(t, most+", drop", 0, last+2)
		refuses(t, most+", +r(", 0, last+4)
	}
}

// What is as much as may be is right.
func TestP11_1_AsMuchAsMayBe(t *testing.T) {
	terms := "X" + strings.Repeat(", X", 4)
	for _, text := range []string{
		"rule a 1000: p -> +r.", "rule a -1000: p -> +r.", "rule a 0: p" + strings.Repeat(", p", 5) + " -> drop 5.", "rule a 0: p" + strings.Repeat(", [1 = 1]", 5) + " -> drop 0.", "rule a 0: p -> +r" + strings.Repeat(", drop 0", 5) + ".",
		"rule a 0: p(" + terms + "), not p(" + terms + ") -> +r(" + terms + ").", "rule a 0: p, [" + deep(7) + " = " + wide(7) + "] -> +r(" + wide(7) + ", " + deep(7) + ").",
	} {
		last := len(signsOf(t, text))
		reads(t, text, 0, last)
		reads(t, "x ( "+text+" .", 2, last+2)
	}
}

// inExpr tells beginnings of rules that end where an expression is to stand.
func inExpr() []string {
	return []string{"rule a 0: p, [", "rule a 0: p, [1 =", "rule a 0: p, [" + deep(7) + " <", "rule a 0: p, [" + deep(15) + " <", "rule a 0: p -> +r(", "rule a 0: p -> +r(1,", "rule a 0: p -> +r(" + deep(7) + ",", "rule a 0: p -> drop 0, +r(" + deep(15) + ", 1, 1, 1, 1, 1,"}
}

func TestP11_1_TooManyBrackets(t *testing.T) {
	for _, begun := range inExpr() {
		from := len(signsOf(t, begun))
		for _, way := range []string{"(", "(X + ", "( % so\n", "((1 - 2) * "} {
			ahead := begun + strings.Repeat(way, 15)
			if way == "((1 - 2) * " {
				// What is closed is not open any more, but while it is open it counts.
				ahead = begun + strings.Repeat(way, 14) + "("
			}
			count := len(signsOf(t, ahead))
			// 15 are open: the sign that does not fit is told, or the end.
			for _, behind := range []string{"", "]", ")", "+", "=", ".", ","} {
				refuses(t, ahead+behind, 0, count)
				refuses(t, "q r "+ahead+behind, 2, count+2)
			}
			refuses(t, ahead+"X", 0, count+1)
			refuses(t, ahead+"X]", 0, count+1)
			// 16 are open: where the rule begins, whatever stands behind.
			for _, behind := range []string{"", "]", ")", "+", "X", "X]", "1 + 1)", "(", ".", "-> +r.", strings.Repeat("(", 100)} {
				refuses(t, ahead+"("+behind, 0, 0)
				refuses(t, "q r "+ahead+"("+behind, 2, 2)
			}
		}
		// A sign ahead of them goes first.
		refuses(t, begun+"X X"+strings.Repeat("(", 100), 0, from+1)
		refuses(t, begun+"(X,"+strings.Repeat("(", 100), 0, from+2)
	}
	// Only brackets of expressions count, each expression's alone.
	refuses(t, "rule a 0: p -> +r"+strings.Repeat("(", 16), 0, 24)
	refuses(t, "rule a 0: p -> +r"+strings.Repeat("(", 17), 0, 0)
	refuses(t, "rule a 0: "+strings.Repeat("(", 17), 0, 4)
	refuses(t, "rule a 0: p"+strings.Repeat("(", 17), 0, 6)
	refuses(t, "rule a 0: p, ["+strings.Repeat("[", 17), 0, 7)
	refuses(t, strings.Repeat("(", 17), 0, 0)
	many := "rule a 0: p" + strings.Repeat(", ["+deep(15)+" = "+deep(15)+"]", 20) + " -> +r(" + deep(15)
	last := len(signsOf(t, many))
	refuses(t, many+"]", 0, last)
	refuses(t, many+", "+strings.Repeat("(", 15), 0, last+16)
	refuses(t, many+", "+strings.Repeat("(", 16), 0, 0)
}

// Very long lists end, and in good time (R1).
func TestP11_1_VeryLongLists(t *testing.T) {
	const count = 100000
	for _, c := range []struct{ ahead, again, behind string }{
		{"rule a 0: p", ", p", " -> +r."}, {"rule a 0: p", ", not p(X)", " -> +r."}, {"rule a 0: p", ", [1 = (2 - 1)]", " -> +r."}, {"rule a 0: p -> +r", ", +r(1)", "."}, {"rule a 0: p -> +r", ", drop 0", "."},
		{"rule a 0: p(1", ", 2", ") -> +r."}, {"rule a 0: p -> +r(1", ", (2 * X)", ")."},
	} {
		ahead, again, behind := signsOf(t, c.ahead), signsOf(t, c.again), signsOf(t, c.behind)
		l := slices.Concat(ahead, slices.Repeat(again, count))
		if r, next, e := Read(l, 0); !isZero(r) || next != len(l) || e != api.ErrText {
			t.Error(c, short(r), next, e)
		}
		if r, next, e := Read(slices.Concat(l, behind), 0); !isZero(r) || next != 0 || e != api.ErrText {
			t.Error(c, short(r), next, e)
		}
		// The signs ahead of the last one that is put again fit.
		last := len(l) - len(again)
		if r, next, e := Read(slices.Concat(with(l, last, token(api.TokSign, "/")), behind), 0); !isZero(r) || next != last || e != api.ErrText {
			t.Error(c, short(r), next, e)
		}
	}
	begun := signsOf(t, "rule a 0: p, [")
	if r, next, e := Read(slices.Concat(begun, slices.Repeat(signsOf(t, "("), count)), 0); !isZero(r) || next != 0 || e != api.ErrText {
		t.Error(short(r), next, e)
	}
	// As many steps as 15 brackets in one another may hold.
	full := signsOf(t, "X")
	for range 15 {
		full = slices.Concat(signsOf(t, "("), full, signsOf(t, "+"), full, signsOf(t, ")"))
	}
	for _, behind := range []string{"", " ->", " <= 1"} {
		l := slices.Concat(begun, full, signsOf(t, behind))
		want := len(l)
		if behind == " ->" {
			want--
		}
		if r, next, e := Read(l, 0); !isZero(r) || next != want || e != api.ErrText {
			t.Error(short(r), next, want, e)
		}
	}
}

func TestP11_1_ParseOfAllShortTexts(t *testing.T) {
	pieces := []string{"p", "not ", "X", "1", "(", ")", "[", "]", "<", ",", " -> ", "+", "drop ", ".", "%\n", "!"}
	var grow func(text string, left int)
	grow = func(text string, left int) {
		holdParse(t, text)
		if left > 0 {
			for _, p := range pieces {
				grow(text+p, left-1)
			}
		}
	}
	grow("", 3)
	grow("rule a 0: p", 3)
	grow("rule a 0: p -> ", 4)
}

func TestP11_1_ParseTellsTheFirstError(t *testing.T) {
	const text = "rule a 0: p -> +r."
	blank := strings.Repeat(" ", api.MaxText-len(text))
	for s, want := range map[string]api.Errno{
		text: api.OK, " " + text + " ": api.OK, "% a rule\n" + text + "% behind": api.OK, "rule a\n0:p\t->+ r\r.": api.OK, "rule a 0:p->drop 0.": api.OK, "rule a 0:p,[-1<=-1]->+r(-1).": api.OK,
		"": api.ErrText, " ": api.ErrText, "% rule": api.ErrText, "rule": api.ErrText, text[:len(text)-1]: api.ErrText, text + ".": api.ErrText, text + " x": api.ErrText, text + text: api.ErrText, "x " + text: api.ErrText, "% " + text: api.ErrText,
		"rule a 1001: p -> +r.": api.ErrText, "rule a 0: p -> drop 1.": api.ErrText, "rule a 0: not p -> +r.": api.ErrText, "rule a 0: p -> +r, drop -1.": api.ErrText, "rule a 0: p - > +r.": api.ErrSign, "rule a 0: p, [1 - 2] -> +r.": api.ErrText, "rule a 0: p, [(1 < 2)] -> +r.": api.ErrText, "rule a0: p -> +r.": api.ErrText, "rule a 0: p, [X < -> +r.": api.ErrText,
		text + "!": api.ErrSign, "!" + text: api.ErrSign, "rule not _": api.ErrSign, "rule a 1001: p -> +r. ?": api.ErrSign, "rule a 4611686018427387905: p -> +r.": api.ErrSign, "rule " + strings.Repeat("a", 25) + " 0: p -> +r.": api.ErrSign, "rule a 0: p(\"a) -> +r.": api.ErrSign, "rule a 0: p, [X > 1] -> +r.": api.ErrSign, "rule a 0: p; q -> +r.": api.ErrSign,
		text + blank: api.OK, blank + text: api.OK, blank + text + " ": api.ErrLen, " " + text + blank: api.ErrLen, "!" + strings.Repeat(" ", api.MaxText): api.ErrLen, strings.Repeat("rule", 100000): api.ErrLen, "rule a 0: p, [" + strings.Repeat("(", api.MaxText-14): api.ErrText,
	} {
		if r, e := Parse(s); e != want || isZero(r) != (want != api.OK) {
			t.Errorf("Parse(%q) = %v, %v; want %v", short(s), short(r), e, want)
		}
		holdParse(t, s)
	}
}

// bounds is where a piece of memory begins and ends.
type bounds struct{ from, to uintptr }

func pieceOf[T any](first *T, count int) []bounds {
	var one T
	if count == 0 {
		return nil
	}
	from := uintptr(unsafe.Pointer(first))
	return []bounds{{from, from + uintptr(count)*unsafe.Sizeof(one)}}
}

// room tells a list's piece, spare room too.
func room[T any](l []T) []bounds { return pieceOf(unsafe.SliceData(l), cap(l)) }

func textOf(s string) []bounds { return pieceOf(unsafe.StringData(s), len(s)) }

func piecesOfTokens(l []api.Token) []bounds {
	all := room(l)
	for _, x := range l[:cap(l)] {
		all = append(all, textOf(x.Text)...)
	}
	return all
}

func piecesOfOps(l []api.Op) []bounds {
	all := room(l)
	for _, x := range l[:cap(l)] {
		all = slices.Concat(all, textOf(x.Var), textOf(x.Val.S))
	}
	return all
}

func piecesOfRule(r api.Rule) []bounds {
	all := slices.Concat(textOf(r.Name), room(r.Conds), room(r.Acts))
	for _, c := range r.Conds[:cap(r.Conds)] {
		all = slices.Concat(all, textOf(c.Atom.Name), room(c.Atom.Args), piecesOfOps(c.Left), piecesOfOps(c.Right))
		for _, x := range c.Atom.Args[:cap(c.Atom.Args)] {
			all = slices.Concat(all, textOf(x.Var), textOf(x.Val.S))
		}
	}
	for _, a := range r.Acts[:cap(r.Acts)] {
		all = slices.Concat(all, textOf(a.Name), room(a.Args))
		for _, x := range a.Args[:cap(a.Args)] {
			all = append(all, piecesOfOps(x)...)
		}
	}
	return all
}

func apart(t *testing.T, name string, a, b []bounds) {
	t.Helper()
	for _, p := range a {
		for _, q := range b {
			if p.from < q.to && q.from < p.to {
				t.Errorf("%s: memory is shared", name)
			}
		}
	}
}

// own holds that no two pieces of one answer share any.
func own(t *testing.T, name string, pieces []bounds) {
	t.Helper()
	for i := range pieces {
		apart(t, name, pieces[:i], pieces[i:i+1])
	}
}

// roomy tells a copy of the signs, down to the bytes, with signs in the spare room that would go on.
func roomy(t *testing.T, text, spare string) []api.Token {
	l := signsOf(t, text)
	all := slices.Concat(l, signsOf(t, spare))
	for i := range all {
		all[i].Text = strings.Clone(all[i].Text)
	}
	return all[:len(l)]
}

// What is handed in is not changed, what is answered is new memory, and spare room is not read (R2, R6).
func TestP11_1_MemoryOfReading(t *testing.T) {
	whole := longTexts()[3]
	l := signsOf(t, whole)
	texts := longTexts()
	for i := range l {
		texts = append(texts, lex.Join(l[:i]))
	}
	for _, text := range texts {
		spares := []string{".", "p -> +r.", "-> +r.", ", q -> +r.", "1 -> +r.", "1] -> +r.", "] -> +r.", "(X) -> +r.", ")] -> +r.", "(1), drop 0.", "0.", "1).", ").", "a 0: p -> +r."}
		if n := len(signsOf(t, text)); n < len(l) {
			spares = append(spares, lex.Join(l[n:]))
		}
		for _, spare := range spares {
			signs := roomy(t, text, spare)
			plain := slices.Clip(slices.Clone(signs))
			before := fmt.Sprintf("%#v", signs[:cap(signs)])
			r, next, e := Read(signs, 0)
			if s, place, told := Read(plain, 0); !same(r, s) || next != place || e != told {
				t.Errorf("Read of %q reads spare room %q: %v, %d, %v; want %v, %d, %v", text, spare, r, next, e, s, place, told)
			}
			if after := fmt.Sprintf("%#v", signs[:cap(signs)]); after != before {
				t.Errorf("%s was changed to %s", before, after)
			}
			apart(t, "Read of "+text, piecesOfRule(r), piecesOfTokens(signs))
			own(t, "Read of "+text, piecesOfRule(r))
		}
	}
	text := strings.Clone(whole)
	r, e := Parse(text)
	if e != api.OK {
		t.Fatal(e)
	}
	apart(t, "Parse", piecesOfRule(r), textOf(text))
	own(t, "Parse", piecesOfRule(r))
}

// Signs that share their bytes are read to a rule that shares none.
func TestP11_1_SignsOfOneMemory(t *testing.T) {
	l := signsOf(t, "rule long 0: long(Long), not long(Long), [Long = long] -> +long(Long, long), drop 0.")
	name, variable := strings.Clone("long"), strings.Clone("Long")
	for i, x := range l {
		switch x.Text {
		case name:
			l[i].Text = name
		case variable:
			l[i].Text = variable
		}
	}
	r, next, e := Read(l, 0)
	if isZero(r) || next != len(l) || e != api.OK {
		t.Fatal(r, next, e)
	}
	own(t, "Read", piecesOfRule(r))
	apart(t, "Read", piecesOfRule(r), piecesOfTokens(l))
}

func TestP11_1_MemoryOfCheckingAndWriting(t *testing.T) {
	r := base()
	r.Conds[0].Atom.Args = append(r.Conds[0].Atom.Args, variable("Spare"), api.Term{})[:1]
	r.Conds[2].Left = append(r.Conds[2].Left, do(api.Add), api.Op{})[:3]
	r.Conds = append(r.Conds, api.Cond{}, has(atom("spare")))[:4]
	r.Acts[0].Args = append(r.Acts[0].Args, nil, steps(pushVar("Spare")))[:2]
	r.Acts = append(r.Acts, api.Act{}, retract(9))[:3]
	spare := func() string {
		return fmt.Sprintf("%#v %#v %#v %#v %#v %#v", r, r.Conds[0].Atom.Args[:3], r.Conds[2].Left[:5], r.Conds[:6], r.Acts[0].Args[:4], r.Acts[:5])
	}
	before := spare()
	holdRight(t, r)
	if after := spare(); after != before {
		t.Errorf("%s was changed to %s", before, after)
	}
	r = small()
	r.Name = strings.Clone("a")
	text, _ := Text(r)
	apart(t, text, textOf(text), piecesOfRule(r))
}

// What is answered hangs on the arguments alone (R3).
func TestP11_1_TwiceTheSame(t *testing.T) {
	texts := append(longTexts(), "", "rule", "rule a 0: p, ["+strings.Repeat("(", 16), "rule a 0: p, ["+strings.Repeat("(", 15))
	for _, text := range texts {
		l := signsOf(t, text)
		r, next, e := Read(l, 0)
		p, eP := Parse(text)
		s, eS := Text(r)
		for _, other := range texts {
			o, _, _ := Read(signsOf(t, other), 0)
			Parse(other)
			Text(o)
			r2, next2, e2 := Read(l, 0)
			p2, eP2 := Parse(text)
			s2, eS2 := Text(r)
			if !same(r, r2) || next != next2 || e != e2 || !same(p, p2) || eP != eP2 || s != s2 || eS != eS2 {
				t.Errorf("%q is read or written otherwise behind %q", text, other)
			}
		}
	}
}

func holdWritten(t *testing.T, r api.Rule) {
	t.Helper()
	text, e := Text(r)
	if e != api.OK {
		t.Fatalf("Text(%v): %v", short(r), e)
	}
	if s, e := Parse(text); !same(r, s) || e != api.OK {
		t.Errorf("%q of %v is read as %v, %v", text, short(r), short(s), e)
	}
	l := signsOf(t, "q.\n"+text+"\nrule")
	if s, next, e := Read(l, 2); !same(r, s) || next != len(l)-1 || e != api.OK {
		t.Errorf("%q of %v is read as %v, up to %d of %d, %v", text, short(r), short(s), next, len(l), e)
	}
}

func TestP11_2_WrittenRulesAreRead(t *testing.T) {
	for _, r := range rightRules() {
		holdWritten(t, r)
	}
	for count := api.MaxText - 250; count <= api.MaxText-10; count += 7 {
		holdWritten(t, lengthy(t, count))
	}
}

// some tells one of l.
func some[T any](by *rand.Rand, l []T) T { return l[by.Intn(len(l))] }

// mixed tells a right rule of parts that are picked at random, of a seed that stays.
func mixed(by *rand.Rand) api.Rule {
	terms, exprs, names := rightTerms(), rightExprs(), rightNames()
	someAtom := func() api.Atom {
		a := atom(some(by, names))
		for range by.Intn(api.MaxArgs + 1) {
			a.Args = append(a.Args, some(by, terms))
		}
		return a
	}
	r := api.Rule{Name: some(by, names), Prio: by.Intn(2001) - 1000, Conds: conds(has(someAtom()))}
	found := 1
	for range by.Intn(api.MaxConds) {
		switch by.Intn(3) {
		case 0:
			r.Conds = append(r.Conds, has(someAtom()))
			found++
		case 1:
			r.Conds = append(r.Conds, not(someAtom()))
		default:
			r.Conds = append(r.Conds, compare(some(by, exprs), some(by, hows()), some(by, exprs)))
		}
	}
	for range 1 + by.Intn(api.MaxActs) {
		a := assert(some(by, names))
		for range by.Intn(api.MaxArgs + 1) {
			a.Args = append(a.Args, some(by, exprs))
		}
		if by.Intn(3) == 0 {
			a = retract(by.Intn(found))
		}
		r.Acts = append(r.Acts, a)
	}
	return r
}

func TestP11_2_MixedRules(t *testing.T) {
	by := rand.New(rand.NewSource(11))
	for range 2000 {
		r := mixed(by)
		holdRight(t, r)
		holdWritten(t, r)
		l := signsOf(t, plainText(r))
		for range 3 {
			i := by.Intn(len(l))
			holdRead(t, with(l, i, some(by, rightSigns())), 0)
			holdRead(t, wedged(l, i, some(by, l)), 0)
			holdRead(t, without(l, i), 0)
			holdRead(t, slices.Concat(l[:i], l[by.Intn(len(l)):]), 0)
		}
	}
}

// Whatever text a rule is read from, it is written as one text, which is read as the same.
func TestP11_2_ReadRulesAreWritten(t *testing.T) {
	for text, want := range map[string]string{
		"rule a 007:p(X)->+r.": "rule a 7: p(X) -> +r.", " rule a -0 : p ( X,007 ) ,not q% so\n->drop 00 , + r ( -0 ) .": "rule a 0: p(X, 7), not q -> drop 0, +r(0).", "rule a 1:p,[(1- 2)!=(X*-2)]->+r((a+\"\\\"\")).": `rule a 1: p, [(1 - 2) != (X * -2)] -> +r((a + "\"")).`,
	} {
		r, e := Parse(text)
		if e != api.OK {
			t.Fatal(text, e)
		}
		if again, e := Text(r); again != want || e != api.OK {
			t.Errorf("%q, %v; want %q", again, e, want)
		}
		holdWritten(t, r)
	}
}

func FuzzP11_2(f *testing.F) {
	for _, text := range append(longTexts(), "", "rule a 0: p, ["+strings.Repeat("(", 16), "rule a 0: p -> +r(1,2,3,4,5,6)!", "rule a -0:p->drop 00.", "rule not") {
		f.Add(text, 0, api.TokName, 3)
	}
	f.Fuzz(func(t *testing.T, text string, place, kind, at int) {
		if len(text) > 1000 {
			return
		}
		holdParse(t, text)
		l, _, _ := lex.Tokens(text)
		if place >= 0 && place < len(l) {
			l[place].Kind = kind
		}
		if at >= 0 && at <= len(l) {
			holdRead(t, l, at)
		}
		holdRead(t, l, 0)
		if r, _, e := Read(l, 0); e == api.OK {
			holdWritten(t, r)
		}
	})
}
