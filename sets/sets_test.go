package sets

import (
	"fmt"
	"math"
	"reflect"
	"slices"
	"strings"
	"testing"
	"unsafe"

	"constable/api"
	"constable/fact"
)

func num(n int) api.Value    { return api.Value{Kind: api.Int, N: n} }
func sym(s string) api.Value { return api.Value{Kind: api.Sym, S: s} }
func str(s string) api.Value { return api.Value{Kind: api.Str, S: s} }

func of(name string, args ...api.Value) api.Fact { return api.Fact{Name: name, Args: args} }

func list(facts ...api.Fact) []api.Fact { return facts }

// rising holds right facts by their order: each is unlike the next in one way alone.
func rising() []api.Fact {
	return []api.Fact{
		of("a"),
		of("a", num(api.Least)),
		of("a", num(1)),
		of("a", num(api.Most)),
		of("a", sym("b")),
		of("a", str("")),
		of("a", str("b")),
		of("a", num(0), num(0)),
		of("a", num(0), num(1)),
		of("aB"),
		of("ab"),
		of("b"),
		of("z", num(9), num(9), num(9), num(9), num(9)),
		of(strings.Repeat("z", api.MaxName)),
	}
}

// wrongOnes holds wrong facts: a name, a value, or the count of the values is wrong.
func wrongOnes() []api.Fact {
	return []api.Fact{
		{}, of("A"), of("_"), of("not"), of("drop"), of("a b"), of(strings.Repeat("z", api.MaxName+1)),
		of("a", api.Value{}), of("a", num(api.Most+1)), of("a", num(math.MinInt)), of("a", sym("")), of("a", str("\n")),
		of("a", num(1), num(2), num(3), num(4), api.Value{Kind: 9}),
		of("a", slices.Repeat([]api.Value{num(1)}, api.MaxArgs+1)...),
		of("\xff"), of("zz", sym("A")),
	}
}

// subsets lists every set of some facts of l, which is rising and short.
func subsets(l []api.Fact) [][]api.Fact {
	var all [][]api.Fact
	for bits := range 1 << len(l) {
		var s []api.Fact
		for i, f := range l {
			if bits>>i&1 == 1 {
				s = append(s, f)
			}
		}
		all = append(all, s)
	}
	return all
}

// tuples lists every list of exactly n of the facts, alike ones too.
func tuples(facts []api.Fact, n int) [][]api.Fact {
	all := [][]api.Fact{nil}
	for range n {
		var longer [][]api.Fact
		for _, l := range all {
			for _, f := range facts {
				longer = append(longer, append(slices.Clone(l), f))
			}
		}
		all = longer
	}
	return all
}

func alikeLists(a, b []api.Fact) bool { return fact.Lists(a, b) == 0 }

// isIn asks without the package's own search.
func isIn(l []api.Fact, f api.Fact) bool {
	for _, g := range l {
		if g.Name == f.Name && slices.Equal(g.Args, f.Args) {
			return true
		}
	}
	return false
}

// chosen tells the facts of all, which is rising, that the question takes: the set that is wanted.
func chosen(all []api.Fact, takes func(api.Fact) bool) []api.Fact {
	var l []api.Fact
	for _, f := range all {
		if takes(f) {
			l = append(l, f)
		}
	}
	return l
}

func TestP4_1_ExampleOfTheChapter(t *testing.T) {
	l, e := Of(list(of("b"), of("a"), of("b")))
	if e != api.OK || !alikeLists(l, list(of("a"), of("b"))) {
		t.Error(l, e)
	}
}

func TestP4_1_CheckTakesRightSets(t *testing.T) {
	l := rising()
	if e := Check(l); e != api.OK {
		t.Errorf("Check(%+v) = %d", l, e)
	}
	for i := range l {
		for k := i; k <= len(l); k++ {
			if e := Check(l[i:k]); e != api.OK {
				t.Errorf("Check(%+v) = %d", l[i:k], e)
			}
		}
	}
	for _, l := range [][]api.Fact{nil, {}, {of("a")}, {{Name: "a", Args: []api.Value{}}}} {
		if e := Check(l); e != api.OK {
			t.Errorf("Check(%+v) = %d", l, e)
		}
	}
}

// Two places of a set changed round, or one of them there twice: no set any more.
func TestP4_1_CheckRefusesWhatDoesNotRise(t *testing.T) {
	l := rising()
	for i := range l {
		for k := range i {
			turned := slices.Clone(l)
			turned[i], turned[k] = turned[k], turned[i]
			twice := slices.Insert(slices.Clone(l), k, l[i])
			for _, wrong := range [][]api.Fact{turned, twice, {l[i], l[k]}} {
				if e := Check(wrong); e != api.ErrArg {
					t.Errorf("Check(%+v) = %d", wrong, e)
				}
			}
		}
		if e := Check(list(l[i], l[i])); e != api.ErrArg {
			t.Errorf("%+v twice: %d", l[i], e)
		}
	}
	if e := Check(list(of("a"), api.Fact{Name: "a", Args: []api.Value{}})); e != api.ErrArg {
		t.Errorf("no Args and empty Args: %d", e)
	}
}

// withWrong lists lists with one wrong fact each: at its place by the order, and at every other one.
func withWrong() [][]api.Fact {
	var all [][]api.Fact
	few := list(of("a"), of("b"), of("zzz"))
	for _, w := range wrongOnes() {
		place, _ := slices.BinarySearchFunc(few, w, fact.Compare)
		all = append(all, list(w), slices.Insert(slices.Clone(few), place, w))
		for i := range len(few) + 1 {
			all = append(all, slices.Insert(slices.Clone(few), i, w))
		}
	}
	return all
}

func TestP4_1_CheckRefusesWrongFacts(t *testing.T) {
	for _, l := range withWrong() {
		if e := Check(l); e != api.ErrArg {
			t.Errorf("Check(%+v) = %d", l, e)
		}
	}
}

// Has takes lists that are no sets, and wrong facts.
func TestP4_1_HasOfAny(t *testing.T) {
	all := append(rising(), wrongOnes()...)
	slices.Reverse(all)
	for i, f := range all {
		if !Has(all, f) || !Has(all[i:], f) || !Has(all[:i+1], f) || !Has(list(f, f), f) {
			t.Errorf("%+v is not found", f)
		}
		if Has(all[:i], f) || Has(all[i+1:], f) || Has(nil, f) || Has([]api.Fact{}, f) {
			t.Errorf("%+v is found where it is not", f)
		}
	}
	if !Has(list(api.Fact{Name: "a", Args: []api.Value{}}), of("a")) {
		t.Error("no Args and empty Args are unlike")
	}
}

func TestP4_1_OfTellsTheSet(t *testing.T) {
	all := rising()
	facts := list(all[0], all[2], all[7], all[11])
	for n := range 6 {
		for _, l := range tuples(facts, n) {
			want := chosen(facts, func(f api.Fact) bool { return isIn(l, f) })
			if got, e := Of(l); e != api.OK || !alikeLists(got, want) {
				t.Fatalf("Of(%+v) = %+v, %d; want %+v", l, got, e, want)
			}
		}
	}
}

func TestP4_1_OfAllFactsBackwards(t *testing.T) {
	l := append(rising(), rising()...)
	slices.Reverse(l)
	if got, e := Of(l); e != api.OK || !alikeLists(got, rising()) {
		t.Errorf("Of(%+v) = %+v, %d", l, got, e)
	}
}

func TestP4_1_OfManyFacts(t *testing.T) {
	const count, unlike = 60000, 20000
	var l []api.Fact
	for i := range count {
		l = append(l, of("a", num(i*7919%unlike)))
	}
	got, e := Of(l)
	if e != api.OK || len(got) != unlike || Check(got) != api.OK {
		t.Fatalf("%d facts, %d", len(got), e)
	}
	for i, f := range got {
		if f.Args[0].N != i {
			t.Fatalf("at %d stands %+v", i, f)
		}
	}
}

func TestP4_1_OfRefusesWrongFacts(t *testing.T) {
	for _, l := range withWrong() {
		if got, e := Of(l); got != nil || e != api.ErrArg {
			t.Errorf("Of(%+v) = %+v, %d", l, got, e)
		}
	}
}

// Each fact into and out of each set of the others, at the ends and between.
func TestP4_1_PutAndDrop(t *testing.T) {
	all := rising()[:9]
	for _, s := range subsets(all) {
		for _, f := range all {
			with := chosen(all, func(g api.Fact) bool { return isIn(s, g) || isIn(list(f), g) })
			without := chosen(all, func(g api.Fact) bool { return isIn(s, g) && !isIn(list(f), g) })
			if got, e := Put(s, f); e != api.OK || !alikeLists(got, with) {
				t.Fatalf("Put(%+v, %+v) = %+v, %d; want %+v", s, f, got, e, with)
			}
			if got, e := Drop(s, f); e != api.OK || !alikeLists(got, without) {
				t.Fatalf("Drop(%+v, %+v) = %+v, %d; want %+v", s, f, got, e, without)
			}
		}
	}
}

func TestP4_1_BothTellsWhatEitherHas(t *testing.T) {
	all := rising()[:6]
	for _, a := range subsets(all) {
		for _, b := range subsets(all) {
			want := chosen(all, func(f api.Fact) bool { return isIn(a, f) || isIn(b, f) })
			if got, e := Both(a, b); e != api.OK || !alikeLists(got, want) {
				t.Fatalf("Both(%+v, %+v) = %+v, %d; want %+v", a, b, got, e, want)
			}
		}
	}
}

func TestP4_1_PutAndDropRefuse(t *testing.T) {
	a, b := of("a"), of("b")
	refuse := func(l []api.Fact, f api.Fact) {
		if got, e := Put(l, f); got != nil || e != api.ErrArg {
			t.Errorf("Put(%+v, %+v) = %+v, %d", l, f, got, e)
		}
		if got, e := Drop(l, f); got != nil || e != api.ErrArg {
			t.Errorf("Drop(%+v, %+v) = %+v, %d", l, f, got, e)
		}
	}
	for _, l := range append(withWrong(), list(b, a), list(a, a), list(a, b, a), list(a, b, b)) {
		refuse(l, a)
		refuse(l, of("c"))
		refuse(l, api.Fact{})
	}
	for _, f := range wrongOnes() {
		refuse(nil, f)
		refuse(list(a, b), f)
		refuse(list(f), f)
	}
}

func TestP4_1_BothRefuses(t *testing.T) {
	a, b := of("a"), of("b")
	for _, l := range append(withWrong(), list(b, a), list(a, a), list(a, b, b)) {
		for _, right := range [][]api.Fact{nil, {a}, {a, b}} {
			if got, e := Both(l, right); got != nil || e != api.ErrArg {
				t.Errorf("Both(%+v, %+v) = %+v, %d", l, right, got, e)
			}
			if got, e := Both(right, l); got != nil || e != api.ErrArg {
				t.Errorf("Both(%+v, %+v) = %+v, %d", right, l, got, e)
			}
		}
		if got, e := Both(l, l); got != nil || e != api.ErrArg {
			t.Errorf("Both(%+v, itself) = %+v, %d", l, got, e)
		}
	}
}

// nil and empty are the same (R2), handed in as a list or as a fact's Args: the answers are alike in every way.
func TestP4_1_NilIsEmpty(t *testing.T) {
	bare, empty := api.Fact{Name: "a"}, api.Fact{Name: "a", Args: []api.Value{}}
	answers := func(none []api.Fact, f api.Fact) [][]api.Fact {
		var all [][]api.Fact
		keep := func(l []api.Fact, e api.Errno) {
			if e != api.OK {
				t.Errorf("error %d", e)
			}
			all = append(all, l)
		}
		keep(Of(none))
		keep(Of(list(f)))
		keep(Put(none, f))
		keep(Put(list(f), f))
		keep(Drop(none, f))
		keep(Drop(list(f), f))
		keep(Both(none, list(f)))
		keep(Both(none, none))
		return all
	}
	want := answers(nil, bare)
	for _, got := range [][][]api.Fact{answers([]api.Fact{}, bare), answers(nil, empty), answers(make([]api.Fact, 0, 3), empty)} {
		if !reflect.DeepEqual(got, want) {
			t.Errorf("%#v; want %#v", got, want)
		}
	}
}

// call is one of the calls that answer a set, at arguments of its own.
type call struct {
	name   string
	args   [][]api.Fact
	answer []api.Fact
}

// calls makes the arguments with spare room that holds facts too: no answer may show, change or share any of it.
func calls(t *testing.T) []call {
	roomy := func(facts ...api.Fact) []api.Fact {
		var l []api.Fact
		for _, f := range append(facts, of("spare", num(77)), of("a")) {
			args := append(slices.Clone(f.Args), num(78), num(79))
			l = append(l, api.Fact{Name: strings.Clone(f.Name), Args: args[:len(f.Args)]})
		}
		return l[:len(facts)]
	}
	set := func() []api.Fact { return roomy(of("a"), of("b", num(1), str("xyz")), of("d", sym("pqr"))) }
	ok := func(l []api.Fact, e api.Errno) []api.Fact {
		if e != api.OK {
			t.Fatalf("error %d", e)
		}
		return l
	}
	var all []call
	add := func(name string, answer func(args ...[]api.Fact) []api.Fact, args ...[]api.Fact) {
		before := fmt.Sprint(whole(args))
		c := call{name, args, answer(args...)}
		if after := fmt.Sprint(whole(args)); after != before {
			t.Errorf("%s changed %s to %s", name, before, after)
		}
		all = append(all, c)
	}
	one := func(of func([]api.Fact) ([]api.Fact, api.Errno)) func(...[]api.Fact) []api.Fact {
		return func(args ...[]api.Fact) []api.Fact { return ok(of(args[0])) }
	}
	with := func(of func([]api.Fact, api.Fact) ([]api.Fact, api.Errno)) func(...[]api.Fact) []api.Fact {
		return func(args ...[]api.Fact) []api.Fact { return ok(of(args[0], args[1][0])) }
	}
	two := func(args ...[]api.Fact) []api.Fact { return ok(Both(args[0], args[1])) }
	turned := roomy(of("d", sym("pqr")), of("b", num(1)), of("d", sym("pqr")), of("a"))
	same := set()
	add("Of a set", one(Of), set())
	add("Of a list", one(Of), turned)
	for _, f := range []api.Fact{of("a"), of("aa"), of("c", str("uvw"), num(3)), of("d", sym("pqr")), of("e", num(1))} {
		add("Put "+f.Name, with(Put), set(), roomy(f))
		add("Drop "+f.Name, with(Drop), set(), roomy(f))
	}
	add("Put into none", with(Put), roomy(), roomy(of("c", num(5))))
	add("Both", two, set(), roomy(of("b"), of("c", num(1), num(2)), of("d", sym("pqr"))))
	add("Both of a and none", two, set(), roomy())
	add("Both of none and b", two, roomy(), set())
	add("Both of one and itself", two, same, same)
	return all
}

// whole tells the lists with their spare room, and that of the Args.
func whole(lists [][]api.Fact) [][]api.Fact {
	var all [][]api.Fact
	for _, l := range lists {
		var full []api.Fact
		for _, f := range l[:cap(l)] {
			full = append(full, api.Fact{Name: f.Name, Args: f.Args[:cap(f.Args)]})
		}
		all = append(all, full)
	}
	return all
}

// bounds is where a piece of memory begins and ends.
type bounds struct{ from, to uintptr }

func pieceOf[T any](first *T, count int) []bounds {
	var one T
	if count == 0 {
		return nil
	}
	from := uintptr(unsafe.Pointer(first))
	return []bounds{{from, from + uintptr(count)*unsafe.Sizeof(one)}}
}

// pieces tells all the memory of a list: its own, that of the Args, that of the strings, spare room too.
func pieces(l []api.Fact) []bounds {
	all := pieceOf(unsafe.SliceData(l), cap(l))
	for _, f := range l[:cap(l)] {
		all = append(all, pieceOf(unsafe.StringData(f.Name), len(f.Name))...)
		all = append(all, pieceOf(unsafe.SliceData(f.Args), cap(f.Args))...)
		for _, v := range f.Args[:cap(f.Args)] {
			all = append(all, pieceOf(unsafe.StringData(v.S), len(v.S))...)
		}
	}
	return all
}

func meet(a, b bounds) bool { return a.from < b.to && b.from < a.to }

func TestP4_1_AnswersAreNewMemory(t *testing.T) {
	for _, c := range calls(t) {
		own := pieces(c.answer)
		for i, p := range own {
			for _, q := range own[:i] {
				if meet(p, q) {
					t.Errorf("%s: two lists of the answer share memory", c.name)
				}
			}
			for _, arg := range c.args {
				for _, q := range pieces(arg) {
					if meet(p, q) {
						t.Errorf("%s: the answer shares memory with an argument", c.name)
					}
				}
			}
		}
	}
}

// What lay behind an argument's length is not handed out, in spare room neither (R6).
func TestP4_1_SpareRoomIsNotHandedOut(t *testing.T) {
	for _, c := range calls(t) {
		if told := fmt.Sprint(whole([][]api.Fact{c.answer})); strings.Contains(told, "spare") || strings.Contains(told, "77") || strings.Contains(told, "78") {
			t.Errorf("%s hands out spare room: %s", c.name, told)
		}
		if Check(c.answer) != api.OK {
			t.Errorf("%s: %+v is no set", c.name, c.answer)
		}
	}
}

// orders lists all orders of the facts.
func orders(facts []api.Fact) [][]api.Fact {
	if len(facts) == 0 {
		return [][]api.Fact{nil}
	}
	var all [][]api.Fact
	for i, f := range facts {
		rest := slices.Delete(slices.Clone(facts), i, i+1)
		for _, l := range orders(rest) {
			all = append(all, append(list(f), l...))
		}
	}
	return all
}

func putAll(t *testing.T, facts []api.Fact) []api.Fact {
	var set []api.Fact
	for _, f := range facts {
		var e api.Errno
		if set, e = Put(set, f); e != api.OK || Check(set) != api.OK {
			t.Fatalf("Put of %+v: %+v, %d", f, set, e)
		}
	}
	return set
}

func TestP4_2_InWhateverOrderFactsArePut(t *testing.T) {
	all := rising()
	facts := list(all[0], all[2], all[4], all[7], all[8], all[11])
	for _, l := range orders(facts) {
		put := putAll(t, append(l, l[0], l[3]))
		of, e := Of(l)
		if !alikeLists(put, facts) {
			t.Fatalf("%+v are put: %+v", l, put)
		}
		if e != api.OK || !reflect.DeepEqual(put, of) {
			t.Fatalf("%+v: put %+v, Of %+v", l, put, of)
		}
		left, _ := Of(l[:3])
		right, _ := Of(l[2:])
		for _, pair := range [][2][]api.Fact{{left, right}, {right, left}} {
			if both, e := Both(pair[0], pair[1]); e != api.OK || !reflect.DeepEqual(both, put) {
				t.Fatalf("Both of %+v: %+v", pair, both)
			}
		}
	}
}

// model is a set kept another way: by the numbers of facts.
type model [8]bool

func (m model) set() []api.Fact {
	i := -1
	return chosen(rising()[:len(m)], func(api.Fact) bool { i++; return m[i] })
}

// Each byte puts or drops a fact; whatever the bytes are, the set is that of the model.
func FuzzP4_2_PutsAndDrops(f *testing.F) {
	f.Add([]byte{7, 0, 3, 8, 3, 15, 7})
	f.Add([]byte{0, 1, 2, 3, 4, 5, 6, 7, 8, 9, 10, 11, 12, 13, 14, 15})
	f.Add([]byte{7, 6, 5, 4, 3, 2, 1, 0, 12})
	f.Fuzz(func(t *testing.T, steps []byte) {
		var m model
		var set []api.Fact
		for _, b := range steps {
			which, e := int(b)%len(m), api.OK
			puts := int(b)/len(m)%2 == 0
			if puts {
				set, e = Put(set, rising()[which])
			} else {
				set, e = Drop(set, rising()[which])
			}
			m[which] = puts
			if e != api.OK || !alikeLists(set, m.set()) || Has(set, rising()[which]) != puts {
				t.Fatalf("%v: %+v, %d; want %+v", steps, set, e, m.set())
			}
		}
	})
}
