package match

import (
	"fmt"
	"math"
	"reflect"
	"slices"
	"strconv"
	"strings"
	"testing"
	"unsafe"

	"constable/api"
	"constable/fact"
	"constable/subst"
)

// limit is how many Binds a right list of layer 5 may have, told here by itself.
const limit = 100

func num(n int) api.Value    { return api.Value{Kind: api.Int, N: n} }
func sym(s string) api.Value { return api.Value{Kind: api.Sym, S: s} }
func str(s string) api.Value { return api.Value{Kind: api.Str, S: s} }

func variable(name string) api.Term { return api.Term{Var: name} }
func constant(v api.Value) api.Term { return api.Term{Val: v} }

func atom(name string, terms ...api.Term) api.Atom     { return api.Atom{Name: name, Args: terms} }
func factOf(name string, values ...api.Value) api.Fact { return api.Fact{Name: name, Args: values} }

func bind(name string, v api.Value) api.Bind { return api.Bind{Var: name, Val: v} }
func list(binds ...api.Bind) []api.Bind      { return binds }

// many tells so many variables, each with its number as its value.
func many(count int) []api.Bind {
	var l []api.Bind
	for i := range count {
		l = append(l, bind("V"+strconv.Itoa(1000000+i), num(i)))
	}
	return l
}

// rightValues holds values that are unlike each other, in one field alone where that may be.
func rightValues() []api.Value {
	return []api.Value{
		num(0), num(1), num(-1), num(api.Most), num(api.Least),
		sym("a"), sym("b"), sym("not"), sym(strings.Repeat("z", api.MaxName)),
		str("a"), str(""), str("0"), str("X"), str(strings.Repeat("~", api.MaxStr)),
	}
}

func wrongValues() []api.Value {
	return []api.Value{
		{Kind: -1}, {Kind: api.Str + 1}, {Kind: 0, N: 1}, {Kind: 0, S: "a"}, num(api.Most + 1), num(api.Least - 1), num(math.MinInt),
		{Kind: api.Int, S: "a"}, sym(""), sym("A"), {Kind: api.Sym, N: 1, S: "a"}, sym(strings.Repeat("a", api.MaxName+1)),
		str("\n"), str("\x7f"), {Kind: api.Str, N: 1}, str(strings.Repeat("a", api.MaxStr+1)),
	}
}

func rightVars() []string {
	return []string{"A", "Z", "X", "X1_y", "NOT", "Fact", strings.Repeat("Z", api.MaxName)}
}

func wrongVars() []string {
	return []string{"x", "xX", "_", "_X", "1", " ", " X", "X ", "X-", "X\x00", "\x00", "É", "XÉ", "\xff", "not", strings.Repeat("X", api.MaxName+1), strings.Repeat("X", 100000)}
}

func rightTerms() []api.Term {
	var l []api.Term
	for _, v := range rightValues() {
		l = append(l, constant(v))
	}
	for _, name := range rightVars() {
		l = append(l, variable(name))
	}
	return l
}

// wrongTerms holds none that is wrong for two reasons, but those of which neither half is right.
func wrongTerms() []api.Term {
	l := []api.Term{{}, {Var: "X", Val: api.Value{Kind: api.Int}}, {Var: "X", Val: api.Value{N: 1}}, {Var: "X", Val: api.Value{S: "a"}}}
	for _, v := range rightValues() {
		l = append(l, api.Term{Var: "X", Val: v}, api.Term{Var: "x", Val: v})
	}
	for _, v := range wrongValues() {
		l = append(l, constant(v), api.Term{Var: "X", Val: v})
	}
	for _, name := range wrongVars() {
		l = append(l, variable(name))
	}
	return l
}

func keptWords() []string {
	return []string{"fact", "rule", "pattern", "not", "and", "or", "before", "once", "always", "since", "drop"}
}

func wrongNames() []string {
	return append(keptWords(), "", "P", "_p", "1p", "p-", "p ", " p", "p(", "p\x00", "é", "pé", "\xff", strings.Repeat("p", api.MaxName+1), strings.Repeat("p", 100000))
}

func wrongAtoms() []api.Atom {
	var all []api.Atom
	for _, name := range wrongNames() {
		all = append(all, atom(name), atom(name, variable("X")))
	}
	for _, t := range wrongTerms() {
		all = append(all, atom("p", t), atom("p", t, variable("X")), atom("p", constant(num(1)), t))
	}
	for _, count := range []int{api.MaxArgs + 1, 1000} {
		all = append(all, atom("p", slices.Repeat([]api.Term{variable("X")}, count)...), atom("p", slices.Repeat([]api.Term{constant(num(1))}, count)...))
	}
	return append(all, api.Atom{})
}

// wrongLists holds lists that layer 5 refuses, each for one reason alone.
func wrongLists() [][]api.Bind {
	all := [][]api.Bind{
		list(api.Bind{}),
		list(bind("x", num(1))),
		list(bind("X", api.Value{})),
		list(bind("B", num(1)), bind("A", num(1))),
		list(bind("X", num(1)), bind("X", num(1))),
		list(bind("X", num(1)), bind("X", num(2))),
		many(limit + 1),
	}
	for _, v := range wrongValues() {
		all = append(all, list(bind("X", v)))
	}
	return all
}

func takeOne(t *testing.T, a api.Atom, f api.Fact, l, want []api.Bind) {
	t.Helper()
	if got, ok := One(a, f, l); !ok || !slices.Equal(got, want) {
		t.Errorf("One(%+v, %+v, %+v) = %+v, %v; want %+v", a, f, l, got, ok, want)
	}
}

func refuseOne(t *testing.T, a api.Atom, f api.Fact, l []api.Bind) {
	t.Helper()
	if got, ok := One(a, f, l); got != nil || ok {
		t.Errorf("One(%+v, %+v, %+v) = %+v, %v", a, f, l, got, ok)
	}
}

func takeGround(t *testing.T, a api.Atom, l []api.Bind, want api.Fact) {
	t.Helper()
	if got, e := Ground(a, l); e != api.OK || fact.Compare(got, want) != 0 {
		t.Errorf("Ground(%+v, %+v) = %+v, %d; want %+v", a, l, got, e, want)
	}
}

func refuseGround(t *testing.T, a api.Atom, l []api.Bind, want api.Errno) {
	t.Helper()
	if got, e := Ground(a, l); e != want || got.Name != "" || got.Args != nil {
		t.Errorf("Ground(%+v, %+v) = %+v, %d; want %d", a, l, got, e, want)
	}
}

func TestP6_1_ExampleOfTheChapter(t *testing.T) {
	a := atom("p", variable("X"), variable("X"))
	refuseOne(t, a, factOf("p", num(1), num(2)), nil)
	takeOne(t, a, factOf("p", num(1), num(1)), nil, list(bind("X", num(1))))
}

func TestP6_1_CheckTakesRightAtoms(t *testing.T) {
	for _, name := range []string{"p", "z", "p1_X", "facts", "nott", "no", strings.Repeat("p", api.MaxName)} {
		if e := Check(atom(name)); e != api.OK {
			t.Errorf("Check of the name %q = %d", name, e)
		}
	}
	for _, term := range rightTerms() {
		for count := range api.MaxArgs + 1 {
			if a := atom("p", slices.Repeat([]api.Term{term}, count)...); Check(a) != api.OK {
				t.Errorf("Check(%+v) = %d", a, Check(a))
			}
		}
	}
}

func TestP6_1_CheckRefusesWrongAtoms(t *testing.T) {
	for _, a := range wrongAtoms() {
		if e := Check(a); e != api.ErrArg {
			t.Errorf("Check(%+v) = %d", a, e)
		}
	}
}

func TestP6_1_CheckOfEachPlace(t *testing.T) {
	for count := 1; count <= api.MaxArgs; count++ {
		for place := range count {
			for _, term := range wrongTerms() {
				terms := slices.Repeat([]api.Term{variable("X")}, count)
				terms[place] = term
				if e := Check(atom("p", terms...)); e != api.ErrArg {
					t.Errorf("Check of %+v at %d of %d = %d", term, place, count, e)
				}
			}
		}
	}
}

func TestP6_1_OneOfValues(t *testing.T) {
	before := list(bind("Y", num(7)))
	for _, v := range rightValues() {
		for _, w := range rightValues() {
			a, f := atom("p", constant(v)), factOf("p", w)
			if v == w {
				takeOne(t, a, f, nil, nil)
				takeOne(t, a, f, before, before)
				continue
			}
			refuseOne(t, a, f, nil)
			refuseOne(t, a, f, before)
		}
	}
}

func TestP6_1_OneOfVariables(t *testing.T) {
	a := atom("p", variable("X"))
	for _, v := range rightValues() {
		takeOne(t, a, factOf("p", v), nil, list(bind("X", v)))
		takeOne(t, a, factOf("p", v), list(bind("A", num(7)), bind("Z", sym("a"))), list(bind("A", num(7)), bind("X", v), bind("Z", sym("a"))))
		for _, w := range rightValues() {
			has := list(bind("A", num(7)), bind("X", w))
			twice := atom("p", variable("X"), constant(num(0)), variable("X"))
			if v == w {
				takeOne(t, a, factOf("p", v), has, has)
				takeOne(t, twice, factOf("p", v, num(0), w), nil, list(bind("X", v)))
				continue
			}
			refuseOne(t, a, factOf("p", v), has)
			refuseOne(t, twice, factOf("p", v, num(0), w), nil)
		}
	}
}

// A variable and the symbol or string with its letters have nothing to do with each other.
func TestP6_1_OneOfALikeText(t *testing.T) {
	takeOne(t, atom("p", variable("X"), constant(str("X"))), factOf("p", str("X"), str("X")), nil, list(bind("X", str("X"))))
	refuseOne(t, atom("p", constant(str("X"))), factOf("p", sym("x")), list(bind("X", sym("x"))))
	refuseOne(t, atom("p", constant(sym("a"))), factOf("p", str("a")), nil)
}

func TestP6_1_OneOfUnlikeNamesAndCounts(t *testing.T) {
	for _, name := range []string{"q", "pp", "p_", "a"} {
		refuseOne(t, atom("p"), factOf(name), nil)
		refuseOne(t, atom(name), factOf("p"), nil)
		refuseOne(t, atom(name, variable("X")), factOf("p", num(1)), nil)
	}
	for terms := range api.MaxArgs + 1 {
		for values := range api.MaxArgs + 1 {
			for _, term := range []api.Term{variable("X"), constant(num(1))} {
				a := atom("p", slices.Repeat([]api.Term{term}, terms)...)
				f := factOf("p", slices.Repeat([]api.Value{num(1)}, values)...)
				if _, ok := One(a, f, nil); ok != (terms == values) {
					t.Errorf("One(%+v, %+v) = %v", a, f, ok)
				}
			}
		}
	}
}

// What is got is got from the place at which the variable stands, and rises by name, whatever the places.
func TestP6_1_OneOfEachOrder(t *testing.T) {
	names := []string{"A", "AA", "A_", "B", "Zz"}
	values := []api.Value{num(1), sym("a"), str("a"), num(2), str("")}
	for _, places := range orders(len(names)) {
		var a api.Atom
		var want []api.Bind
		a.Name = "p"
		for _, place := range places {
			a.Args = append(a.Args, variable(names[place]))
		}
		for i, name := range names {
			want = append(want, bind(name, values[slices.Index(places, i)]))
		}
		takeOne(t, a, factOf("p", values...), nil, want)
	}
}

// orders lists all orders of the numbers below count.
func orders(count int) [][]int {
	all := [][]int{nil}
	for n := range count {
		var next [][]int
		for _, order := range all {
			for place := range len(order) + 1 {
				next = append(next, slices.Insert(slices.Clone(order), place, n))
			}
		}
		all = next
	}
	return all
}

func TestP6_1_OneRefusesWrongArguments(t *testing.T) {
	for _, a := range wrongAtoms() {
		// A fact of the same name and the same values, as far as there are any, so that nothing but the atom is wrong.
		f := factOf("p")
		for _, term := range a.Args[:min(len(a.Args), api.MaxArgs)] {
			f.Args = append(f.Args, term.Val)
		}
		refuseOne(t, a, f, nil)
		refuseOne(t, a, factOf(a.Name, f.Args...), nil)
		refuseOne(t, a, factOf(a.Name, slices.Repeat([]api.Value{num(1)}, len(a.Args))...), nil)
	}
	for _, l := range wrongLists() {
		refuseOne(t, atom("p"), factOf("p"), l)
		refuseOne(t, atom("p", constant(num(1))), factOf("p", num(1)), l)
		refuseOne(t, atom("p", variable("X")), factOf("p", num(1)), l)
		refuseOne(t, atom("p", variable("W")), factOf("p", num(1)), l)
	}
}

func TestP6_1_OneRefusesWrongFacts(t *testing.T) {
	for _, v := range append(wrongValues(), api.Value{}) {
		refuseOne(t, atom("p", variable("X")), factOf("p", v), nil)
		refuseOne(t, atom("p", variable("X"), constant(num(1))), factOf("p", v, num(1)), nil)
		refuseOne(t, atom("p", constant(v)), factOf("p", v), nil)
		refuseOne(t, atom("p", variable("X")), factOf("p", v), list(bind("X", v)))
	}
	for _, name := range wrongNames() {
		refuseOne(t, atom(name, variable("X")), factOf(name, num(1)), nil)
		refuseOne(t, atom("p", variable("X")), factOf(name, num(1)), nil)
	}
	six := slices.Repeat([]api.Value{num(1)}, api.MaxArgs+1)
	refuseOne(t, atom("p", slices.Repeat([]api.Term{variable("X")}, api.MaxArgs+1)...), factOf("p", six...), nil)
	refuseOne(t, atom("p", slices.Repeat([]api.Term{variable("X")}, api.MaxArgs)...), factOf("p", six...), nil)
}

// What were more values of variables than there may be is no match: no list of layer 5 could tell it.
func TestP6_1_OneAtTheLimit(t *testing.T) {
	two := atom("p", variable("A"), variable("W"))
	f := factOf("p", num(1), num(2))
	for count := range limit + 2 {
		got, ok := One(two, f, many(count))
		if ok != (count+2 <= limit) || ok && (len(got) != count+2 || subst.Check(got) != api.OK) {
			t.Errorf("two variables and %d: %d, %v", count, len(got), ok)
		}
	}
	full := many(limit)
	takeOne(t, atom("p", constant(num(1))), factOf("p", num(1)), full, full)
	takeOne(t, atom("p"), factOf("p"), full, full)
	for _, b := range full {
		takeOne(t, atom("p", variable(b.Var), variable(b.Var)), factOf("p", b.Val, b.Val), full, full)
		refuseOne(t, atom("p", variable(b.Var)), factOf("p", num(-1)), full)
	}
	if got, ok := One(atom("p", variable("W"), variable("W")), factOf("p", num(1), num(1)), many(limit-1)); !ok || len(got) != limit {
		t.Errorf("one variable twice and %d: %d, %v", limit-1, len(got), ok)
	}
}

func TestP6_1_GroundTellsTheFact(t *testing.T) {
	takeGround(t, atom("p"), nil, factOf("p"))
	takeGround(t, atom("p"), list(bind("X", num(1))), factOf("p"))
	for _, v := range rightValues() {
		takeGround(t, atom("p", constant(v)), nil, factOf("p", v))
		takeGround(t, atom("p", variable("X")), list(bind("X", v)), factOf("p", v))
		takeGround(t, atom("p", variable("Y"), constant(sym("x")), variable("X"), variable("Y")),
			list(bind("A", num(9)), bind("X", num(8)), bind("Y", v)), factOf("p", v, sym("x"), num(8), v))
	}
	full := many(limit)
	for _, b := range full {
		takeGround(t, atom("p", variable(b.Var)), full, factOf("p", b.Val))
	}
}

func TestP6_1_GroundRefusesInOrder(t *testing.T) {
	for _, a := range wrongAtoms() {
		for _, l := range append(wrongLists(), nil, list(bind("X", num(1)))) {
			refuseGround(t, a, l, api.ErrArg)
		}
	}
	for _, l := range wrongLists() {
		for _, a := range []api.Atom{atom("p"), atom("p", constant(num(1))), atom("p", variable("X")), atom("p", variable("None"))} {
			refuseGround(t, a, l, api.ErrArg)
		}
	}
}

func TestP6_1_GroundOfUnboundAtEachPlace(t *testing.T) {
	for count := 1; count <= api.MaxArgs; count++ {
		for place := range count {
			for _, name := range []string{"Y", "XX", "X_", "A", "Z"} {
				terms := slices.Repeat([]api.Term{variable("X"), constant(num(1))}, api.MaxArgs)[:count]
				terms[place] = variable(name)
				refuseGround(t, atom("p", terms...), list(bind("X", num(1))), api.ErrUnbound)
				refuseGround(t, atom("p", terms...), nil, api.ErrUnbound)
				refuseGround(t, atom("p", terms...), many(limit), api.ErrUnbound)
			}
		}
	}
}

func TestP6_1_VarsOfAny(t *testing.T) {
	for _, c := range []struct {
		terms []api.Term
		want  []string
	}{
		{nil, nil},
		{[]api.Term{{}, {}}, nil},
		{[]api.Term{constant(sym("a")), constant(num(1))}, nil},
		{[]api.Term{variable("X")}, []string{"X"}},
		{[]api.Term{variable("Z"), variable("A"), variable("Z"), variable("M"), variable("A")}, []string{"Z", "A", "M"}},
		{[]api.Term{{Var: "b", Val: num(1)}, {}, {Var: "A"}, {Var: "b"}}, []string{"b", "A"}},
		{[]api.Term{{Var: "\xff"}, {Var: " "}, {Var: "\x00"}, {Var: " ", Val: num(3)}, {Var: "not"}}, []string{"\xff", " ", "\x00", "not"}},
		{[]api.Term{{Var: "XX"}, {Var: "X"}, {Var: "XXX"}, {Var: "X"}, {Var: "XX"}, {Var: "x"}}, []string{"XX", "X", "XXX", "x"}},
	} {
		for _, name := range []string{"p", "", "not", "\xff"} {
			if got := Vars(atom(name, c.terms...)); !slices.Equal(got, c.want) {
				t.Errorf("Vars(%+v) = %q; want %q", c.terms, got, c.want)
			}
		}
	}
}

func TestP6_1_VarsOfMany(t *testing.T) {
	const count = 200000
	var a api.Atom
	for i := range 2 * count {
		a.Args = append(a.Args, variable("V"+strconv.Itoa(i%count)))
	}
	got := Vars(a)
	if len(got) != count {
		t.Fatalf("%d of %d", len(got), count)
	}
	for i, name := range got {
		if name != "V"+strconv.Itoa(i) {
			t.Fatalf("at %d: %q", i, name)
		}
	}
}

// nil and empty are the same (R2).
func TestP6_1_NilIsEmpty(t *testing.T) {
	for _, terms := range [][]api.Term{nil, {}, {variable("X"), {}}, {{}}} {
		for _, values := range [][]api.Value{nil, {}, {num(1), {}}} {
			for _, l := range [][]api.Bind{nil, {}, many(3)} {
				takeOne(t, atom("p", terms[:0]...), factOf("p", values[:0]...), l[:0], nil)
				takeGround(t, atom("p", terms[:0]...), l[:0], factOf("p"))
			}
		}
		if got := Vars(atom("p", terms[:0]...)); len(got) != 0 {
			t.Errorf("Vars of none = %q", got)
		}
	}
}

// given is all that a call was handed, each list with spare room that is not empty.
type given struct {
	a api.Atom
	f api.Fact
	l []api.Bind
}

// roomy tells copies of what it is given, down to the bytes, with something in the spare room of each list.
func roomy(a api.Atom, f api.Fact, l []api.Bind) given {
	g := given{a: api.Atom{Name: strings.Clone(a.Name)}, f: api.Fact{Name: strings.Clone(f.Name)}}
	for _, t := range append(slices.Clone(a.Args), variable("Spare"), constant(num(77)), variable("Spare")) {
		g.a.Args = append(g.a.Args, api.Term{Var: strings.Clone(t.Var), Val: own(t.Val)})
	}
	for _, v := range append(slices.Clone(f.Args), str("spare"), num(77), num(77)) {
		g.f.Args = append(g.f.Args, own(v))
	}
	for _, b := range append(slices.Clone(l), bind("Spare", str("spare")), bind("A", num(77))) {
		g.l = append(g.l, bind(strings.Clone(b.Var), own(b.Val)))
	}
	g.a.Args, g.f.Args, g.l = g.a.Args[:len(a.Args)], g.f.Args[:len(f.Args)], g.l[:len(l)]
	return g
}

func own(v api.Value) api.Value {
	v.S = strings.Clone(v.S)
	return v
}

// told tells all of g, the spare room too.
func (g given) told() string {
	return fmt.Sprintf("%#v", []any{g.a.Name, g.a.Args[:cap(g.a.Args)], g.f.Name, g.f.Args[:cap(g.f.Args)], g.l[:cap(g.l)]})
}

func (g given) pieces() []bounds {
	all := append(textOf(g.a.Name), pieceOf(unsafe.SliceData(g.a.Args), cap(g.a.Args))...)
	for _, t := range g.a.Args[:cap(g.a.Args)] {
		all = append(append(all, textOf(t.Var)...), textOf(t.Val.S)...)
	}
	return append(append(all, piecesOfFact(g.f)...), piecesOfBinds(g.l)...)
}

// bounds is where a piece of memory begins and ends.
type bounds struct{ from, to uintptr }

func pieceOf[T any](first *T, count int) []bounds {
	var one T
	if count == 0 {
		return nil
	}
	from := uintptr(unsafe.Pointer(first))
	return []bounds{{from, from + uintptr(count)*unsafe.Sizeof(one)}}
}

func textOf(s string) []bounds { return pieceOf(unsafe.StringData(s), len(s)) }

func piecesOfFact(f api.Fact) []bounds {
	all := append(textOf(f.Name), pieceOf(unsafe.SliceData(f.Args), cap(f.Args))...)
	for _, v := range f.Args[:cap(f.Args)] {
		all = append(all, textOf(v.S)...)
	}
	return all
}

func piecesOfBinds(l []api.Bind) []bounds {
	all := pieceOf(unsafe.SliceData(l), cap(l))
	for _, b := range l[:cap(l)] {
		all = append(append(all, textOf(b.Var)...), textOf(b.Val.S)...)
	}
	return all
}

func piecesOfNames(names []string) []bounds {
	all := pieceOf(unsafe.SliceData(names), cap(names))
	for _, s := range names[:cap(names)] {
		all = append(all, textOf(s)...)
	}
	return all
}

func apart(t *testing.T, name string, a, b []bounds) {
	t.Helper()
	for _, p := range a {
		for _, q := range b {
			if p.from < q.to && q.from < p.to {
				t.Errorf("%s: the answer shares memory with an argument", name)
			}
		}
	}
}

// some tells arguments that match, that do not, and that are wrong.
func some() []given {
	l := list(bind("Beta", str("xyz")), bind("Delta", sym("pqr")))
	return []given{
		roomy(atom("pred"), factOf("pred"), nil),
		roomy(atom("pred"), factOf("pred"), l),
		roomy(atom("pred", constant(str("xyz"))), factOf("pred", str("xyz")), l),
		roomy(atom("pred", variable("Beta")), factOf("pred", str("xyz")), l),
		roomy(atom("pred", variable("Beta")), factOf("pred", str("other")), l),
		roomy(atom("pred", variable("Alpha"), constant(sym("abc")), variable("Alpha")), factOf("pred", str("uvw"), sym("abc"), str("uvw")), l),
		roomy(atom("pred", variable("Zeta"), variable("Alpha"), variable("Delta")), factOf("pred", str("uvw"), sym("abc"), sym("pqr")), l),
		roomy(atom("pred", variable("Zeta"), variable("Zeta")), factOf("pred", str("uvw"), sym("uvw")), l),
		roomy(atom("Pred", variable("Zeta")), factOf("pred", str("uvw")), l),
		roomy(atom("pred", api.Term{Var: "zeta", Val: str("uvw")}), factOf("pred", str("uvw")), l),
		roomy(atom("pred", variable("Zeta")), factOf("pred", str("\n")), l),
		roomy(atom("pred", variable("Zeta")), factOf("pred", str("uvw")), list(l[1], l[0])),
	}
}

// What is handed in is not changed, what is answered is new memory, and spare room does not come out (R2, R6).
func TestP6_1_MemoryIsItsOwn(t *testing.T) {
	for i, g := range some() {
		before := g.told()
		got, _ := One(g.a, g.f, g.l)
		ground, _ := Ground(g.a, got)
		plain, _ := Ground(g.a, g.l)
		names := Vars(g.a)
		e := Check(g.a)
		if after := g.told(); after != before {
			t.Errorf("%d: %s was changed to %s", i, before, after)
		}
		if e != Check(atom(g.a.Name, slices.Clone(g.a.Args)...)) {
			t.Errorf("%d: Check reads spare room", i)
		}
		apart(t, fmt.Sprintf("%d One", i), piecesOfBinds(got), g.pieces())
		apart(t, fmt.Sprintf("%d Ground of both", i), piecesOfFact(ground), append(g.pieces(), piecesOfBinds(got)...))
		apart(t, fmt.Sprintf("%d Ground", i), piecesOfFact(plain), g.pieces())
		apart(t, fmt.Sprintf("%d Vars", i), piecesOfNames(names), g.pieces())
		out := fmt.Sprint(got[:cap(got)], ground.Args[:cap(ground.Args)], plain.Args[:cap(plain.Args)], names[:cap(names)])
		if strings.Contains(strings.ToLower(out), "spare") || strings.Contains(out, "77") {
			t.Errorf("%d: spare room is handed out: %s", i, out)
		}
	}
}

// The names that Vars answers outlive whatever becomes of one another: no two of them share bytes.
func TestP6_1_VarsAreApart(t *testing.T) {
	text := strings.Repeat("Long", 3)
	names := Vars(atom("p", variable(text), variable(text[:8]), variable(text[:4])))
	if !slices.Equal(names, []string{text, text[:8], text[:4]}) {
		t.Fatalf("%q", names)
	}
	apart(t, "the first and the second", textOf(names[0]), textOf(names[1]))
	apart(t, "the first and the third", textOf(names[0]), textOf(names[2]))
	apart(t, "the second and the third", textOf(names[1]), textOf(names[2]))
}

// plainMatch tells what matching is by the chapter's words alone, by trying all values for all variables.
func plainMatch(a api.Atom, f api.Fact, l []api.Bind, values []api.Value) ([]api.Bind, bool) {
	if a.Name != f.Name {
		return nil, false
	}
	for _, all := range extensions(l, a.Args, values) {
		same := func(t api.Term, v api.Value) bool {
			return t.Var == "" && t.Val == v || t.Var != "" && all[t.Var] == v
		}
		if slices.EqualFunc(a.Args, f.Args, same) {
			var out []api.Bind
			for name, v := range all {
				out = append(out, bind(name, v))
			}
			slices.SortFunc(out, func(x, y api.Bind) int { return strings.Compare(x.Var, y.Var) })
			return out, true
		}
	}
	return nil, false
}

// extensions tells each way to give the variables of terms, beside those of l, one of the values.
func extensions(l []api.Bind, terms []api.Term, values []api.Value) []map[string]api.Value {
	first := map[string]api.Value{}
	for _, b := range l {
		first[b.Var] = b.Val
	}
	all := []map[string]api.Value{first}
	for _, t := range terms {
		if _, has := all[0][t.Var]; has || t.Var == "" {
			continue
		}
		var next []map[string]api.Value
		for _, m := range all {
			for _, v := range values {
				with := map[string]api.Value{t.Var: v}
				for name, w := range m {
					with[name] = w
				}
				next = append(next, with)
			}
		}
		all = next
	}
	return all
}

// product lists all lists of up to so many of the items.
func product[T any](items []T, most int) [][]T {
	all := [][]T{nil}
	last := all
	for range most {
		var next [][]T
		for _, l := range last {
			for _, x := range items {
				next = append(next, append(slices.Clone(l), x))
			}
		}
		all, last = append(all, next...), next
	}
	return all
}

// small tells the values, the terms and the lists of which all small cases are made.
func small() ([]api.Value, []api.Term, [][]api.Bind) {
	values := []api.Value{num(1), sym("a"), str("a")}
	terms := []api.Term{variable("X"), variable("Y"), constant(values[0]), constant(values[2])}
	lists := [][]api.Bind{nil, {bind("X", values[0])}, {bind("Y", values[1])}, {bind("X", values[2]), bind("Y", values[2])}, {bind("Z", values[0])}}
	return values, terms, lists
}

// All atoms and facts of up to three places, with all the lists: what matches is what the chapter's words say.
func TestP6_1_OneOfAllSmallCases(t *testing.T) {
	values, terms, lists := small()
	facts := product(values, 3)
	for _, args := range product(terms, 3) {
		for _, l := range lists {
			for _, given := range facts {
				a, f := atom("p", args...), factOf("p", given...)
				want, is := plainMatch(a, f, l, values)
				if got, ok := One(a, f, l); ok != is || !slices.Equal(got, want) {
					t.Fatalf("One(%+v, %+v, %+v) = %+v, %v; want %+v, %v", a, f, l, got, ok, want, is)
				}
			}
		}
	}
}

// held holds one match against P6.2: its ground is the fact, all of l is kept, and nothing but the atom's variables came to it.
func held(t *testing.T, a api.Atom, f api.Fact, l []api.Bind) bool {
	t.Helper()
	got, ok := One(a, f, l)
	if !ok {
		return false
	}
	if g, e := Ground(a, got); e != api.OK || fact.Compare(g, f) != 0 {
		t.Errorf("One(%+v, %+v, %+v) = %+v, whose ground is %+v, %d", a, f, l, got, g, e)
	}
	if both, is := subst.Both(got, l); !is || !slices.Equal(both, got) {
		t.Errorf("One(%+v, %+v, %+v) = %+v lost some", a, f, l, got)
	}
	for _, b := range got {
		if !slices.Contains(l, b) && !slices.Contains(Vars(a), b.Var) {
			t.Errorf("One(%+v, %+v, %+v) has %+v", a, f, l, b)
		}
	}
	if again, is := One(a, f, got); !is || !slices.Equal(again, got) {
		t.Errorf("One(%+v, %+v, %+v) = %+v, %v: it was %+v", a, f, got, again, is, got)
	}
	return true
}

func TestP6_2_WhatMatchesIsTheGround(t *testing.T) {
	values, terms, lists := small()
	matched := 0
	for _, args := range product(terms, 3) {
		for _, l := range lists {
			for _, given := range product(values, 3) {
				if held(t, atom("p", args...), factOf("p", given...), l) {
					matched++
				}
			}
		}
	}
	if matched == 0 {
		t.Error("nothing matched")
	}
	held(t, atom("p", variable("A"), variable("W")), factOf("p", num(1), num(2)), many(limit-2))
	held(t, atom("p", variable("A"), variable("W")), factOf("p", num(1), num(2)), many(limit-1))
}

// The other way round: the ground of an atom matches it, with nothing that is new.
func TestP6_2_TheGroundMatches(t *testing.T) {
	_, terms, lists := small()
	for _, args := range product(terms, 4) {
		for _, l := range lists {
			a := atom("p", args...)
			f, e := Ground(a, l)
			unbound := slices.ContainsFunc(Vars(a), func(name string) bool {
				_, has := subst.Get(l, name)
				return !has
			})
			if unbound != (e == api.ErrUnbound) || !unbound && e != api.OK {
				t.Fatalf("Ground(%+v, %+v) = %+v, %d", a, l, f, e)
			}
			if got, ok := One(a, f, l); ok != (e == api.OK) || ok && !slices.Equal(got, l) {
				t.Fatalf("One of the ground of %+v with %+v: %+v, %v", a, l, got, ok)
			}
		}
	}
}

// What is answered hangs on the arguments alone (R3).
func TestP6_1_TwiceTheSame(t *testing.T) {
	for _, g := range some() {
		for _, h := range some() {
			first, ok := One(g.a, g.f, g.l)
			ground, e := Ground(g.a, first)
			One(h.a, h.f, h.l)
			Ground(h.a, h.l)
			Vars(h.a)
			second, is := One(g.a, g.f, g.l)
			again, d := Ground(g.a, second)
			if ok != is || e != d || !reflect.DeepEqual(first, second) || !reflect.DeepEqual(ground, again) {
				t.Errorf("%+v: %+v, %v, then %+v, %v", g, first, ok, second, is)
			}
		}
	}
}

// Any bytes are laid as variables and values: whatever is right and matches has the fact as its ground.
func FuzzP6_2(f *testing.F) {
	f.Add("p", "X", "X", "a", 1, "a", 1, "X")
	f.Add("p", "X", "", "a", 2, "b", 3, "Y")
	f.Add("not", "x", "Y", "", 0, "\xff", 9, "")
	f.Fuzz(func(t *testing.T, name, one, two, s string, kind int, r string, other int, has string) {
		v, w := api.Value{Kind: kind, S: s}, api.Value{Kind: other, S: r}
		a := atom(name, variable(one), variable(two), constant(w))
		g := factOf(name, v, w, w)
		for _, l := range [][]api.Bind{nil, list(bind(has, v)), list(bind(has, w)), list(bind(has, v), bind(one, w))} {
			right := Check(a) == api.OK && fact.Check(g) == api.OK && subst.Check(l) == api.OK
			if held(t, a, g, l) && !right {
				t.Errorf("One(%+v, %+v, %+v) took what is wrong", a, g, l)
			}
			if _, e := Ground(a, l); e == api.OK && (Check(a) != api.OK || subst.Check(l) != api.OK) {
				t.Errorf("Ground(%+v, %+v) took what is wrong", a, l)
			}
		}
		Vars(a)
	})
}
