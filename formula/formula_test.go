package formula

import (
	"fmt"
	"math/rand"
	"slices"
	"strings"
	"testing"
	"unsafe"

	"constable/api"
	"constable/lex"
)

func rightTerms() []api.Term {
	var l []api.Term
	for _, v := range []api.Value{
		num(0), num(1), num(-1), num(api.Most), num(api.Least), sym("a"), sym("not"), sym("since"), sym("pattern"), sym("aB_1"), sym(strings.Repeat("z", api.MaxName)),
		str(""), str("a"), str("X"), str(`"`), str(`\`), str(`a"b\c`), str("p, q) and => % ("), str(strings.Repeat("~", api.MaxStr)), str(strings.Repeat(`\`, api.MaxStr)),
	} {
		l = append(l, constant(v))
	}
	for _, name := range []string{"X", "A", "Z", "X1_y", "Not", strings.Repeat("Z", api.MaxName)} {
		l = append(l, variable(name))
	}
	return l
}

func wrongTerms() []api.Term {
	var l []api.Term
	for _, v := range []api.Value{
		{}, {Kind: -1}, {Kind: api.Str + 1}, {N: 1}, {S: "a"}, num(api.Most + 1), num(api.Least - 1), {Kind: api.Int, S: "a"}, sym(""), sym("A"), sym("a b"),
		{Kind: api.Sym, N: 1, S: "a"}, sym(strings.Repeat("a", api.MaxName+1)), str("\n"), str("\xff"), {Kind: api.Str, N: 1}, str(strings.Repeat("a", api.MaxStr+1)),
	} {
		l = append(l, constant(v))
	}
	for _, name := range []string{"x", "_X", "1", " ", "X ", "X-", "É", strings.Repeat("X", api.MaxName+1)} {
		l = append(l, variable(name))
	}
	return append(l, api.Term{Var: "X", Val: num(1)}, api.Term{Var: "X", Val: api.Value{N: 1}})
}

func rightNames() []string {
	return []string{"p", "a", "z", "nots", "no", "patterns", "sincere", "andy", "p1_Q", "aND", strings.Repeat("q", api.MaxName)}
}

func wrongNames() []string {
	return append(kept(), "", "P", "X", "_p", "1", "p ", " p", "p(", "p\x00", "é", "pé", "\xff", strings.Repeat("q", api.MaxName+1), strings.Repeat("q", 100000))
}

func rightAtoms() []api.Atom {
	var l []api.Atom
	for _, name := range rightNames() {
		l = append(l, atom(name), atom(name, variable("X")))
	}
	for _, x := range rightTerms() {
		for count := 1; count <= api.MaxArgs; count++ {
			l = append(l, atom("p", slices.Repeat([]api.Term{x}, count)...))
		}
	}
	return append(l, atom("p", rightTerms()[3:8]...), atom("p", rightTerms()[9:14]...))
}

func wrongAtoms() []api.Atom {
	l := []api.Atom{{}, {Args: []api.Term{}}, atom("", variable("X"))}
	for _, name := range wrongNames() {
		l = append(l, atom(name), atom(name, variable("X")))
	}
	for _, x := range wrongTerms() {
		l = append(l, atom("p", x), atom("p", variable("X"), x), atom("p", append(slices.Repeat([]api.Term{variable("X")}, 4), x)...))
	}
	for _, count := range []int{6, 7, 100000} {
		l = append(l, atom("p", slices.Repeat([]api.Term{variable("X")}, count)...))
	}
	return l
}

// shaped tells all formulas of just so many nodes: their atoms are of a few names by turns.
func shaped(count int) [][]api.Node {
	all := [][][]api.Node{nil, {p(), is(atom("q", variable("X"))), is(atom("r", constant(num(1)), constant(str("and"))))}}
	for n := 2; n <= count; n++ {
		var l [][]api.Node
		for _, kind := range prefixes() {
			for _, f := range all[n-1] {
				l = append(l, over(kind, f))
			}
		}
		for first := 1; first < n-1; first++ {
			for _, kind := range infixes() {
				for i, a := range all[first] {
					for j, b := range all[n-1-first] {
						// Of what is alike but for its atoms, some will do.
						if n < 5 || (i+j)%3 == 0 {
							l = append(l, both(kind, a, b))
						}
					}
				}
			}
		}
		all = append(all, l)
	}
	return all[count]
}

// chain tells a formula of so many nodes in one another, with words ahead alone.
func chain(depth int) []api.Node {
	f := p()
	for i := range depth - 1 {
		f = over(prefixes()[i%4], f)
	}
	return f
}

// leftward, rightward and wide tell formulas of so many atoms between words: those with as many as can be in one another, and with as few.
func leftward(count int) []api.Node {
	f := p()
	for i := range count - 1 {
		f = both(infixes()[i%3], f, is(atom("q")))
	}
	return f
}

func rightward(count int) []api.Node {
	f := p()
	for i := range count - 1 {
		f = both(infixes()[i%3], is(atom("q")), f)
	}
	return f
}

func wide(count int) []api.Node {
	if count == 1 {
		return p()
	}
	return both(infixes()[count%3], wide(count/2), wide(count-count/2))
}

// full is a right formula of as many nodes as may be, and longest the one with the longest text.
func full() []api.Node { return over(api.Once, wide(20)) }

func longAtom() api.Atom {
	return atom(strings.Repeat("z", api.MaxName), slices.Repeat([]api.Term{constant(str(strings.Repeat(`"`, api.MaxStr)))}, api.MaxArgs)...)
}

func longest() []api.Node {
	f := over(api.Before, wide(20))
	for i := range f {
		switch {
		case f[i].Kind == api.Is:
			f[i].Atom = longAtom()
		case f[i].Kind != api.Before:
			f[i].Kind = api.Since
		}
	}
	return f
}

// rightFormulas tells all small right formulas, and one of each kind of edge.
func rightFormulas() [][]api.Node {
	l := [][]api.Node{base(), full(), longest()}
	for n := 1; n <= 5; n++ {
		l = append(l, shaped(n)...)
	}
	for _, a := range rightAtoms() {
		l = append(l, is(a), both(api.Since, is(a), over(api.Neg, is(a))))
	}
	for depth := 1; depth <= api.MaxDepth; depth++ {
		l = append(l, chain(depth), leftward(depth), rightward(depth), both(api.And, chain(depth), p())[:depth])
		if depth < api.MaxDepth {
			l = append(l, both(api.And, chain(depth), p()), both(api.Or, p(), chain(depth)), both(api.Since, leftward(min(depth, 10)), rightward(min(depth, 10))), over(api.Once, rightward(depth)), over(api.Neg, leftward(depth)))
		}
	}
	for count := 1; count <= 20; count++ {
		l = append(l, wide(count), over(api.Always, wide(count)))
	}
	return l
}

func holdFormula(t *testing.T, l []api.Node) {
	t.Helper()
	if e, right := Check(l), plainIsRight(l); (e == api.OK) != right || e != api.OK && e != api.ErrFormula {
		t.Errorf("Check(%v) = %v; right: %v", short(l), e, right)
	}
	if plainIsRight(l) {
		holdRight(t, l)
	} else {
		holdWrong(t, l)
	}
}

func holdRight(t *testing.T, l []api.Node) {
	t.Helper()
	if e := Check(l); e != api.OK {
		t.Errorf("Check(%v) = %v", short(l), e)
	}
	want := plainText(l)
	if text, e := Text(l); text != want || e != api.OK {
		t.Errorf("Text(%v) = %q, %v; want %q", short(l), text, e, want)
	}
	want = "pattern a: t(X) => " + want + "."
	if text, e := Pattern(pattern(l)); text != want || e != api.OK {
		t.Errorf("Pattern of %v = %q, %v; want %q", short(l), text, e, want)
	}
	for at := range l {
		if from, want := From(l, at), plainFrom(l, at); from != want {
			t.Errorf("From(%v, %d) = %d; want %d", short(l), at, from, want)
		}
	}
	for _, at := range beyond(len(l)) {
		if from := From(l, at); from != -1 {
			t.Errorf("From(%v, %d) = %d", short(l), at, from)
		}
	}
}

func holdWrong(t *testing.T, l []api.Node) {
	t.Helper()
	if e := Check(l); e != api.ErrFormula {
		t.Errorf("Check(%v) = %v", short(l), e)
	}
	if text, e := Text(l); text != "" || e != api.ErrFormula {
		t.Errorf("Text(%v) = %q, %v", short(l), text, e)
	}
	if text, e := Pattern(pattern(l)); text != "" || e != api.ErrFormula {
		t.Errorf("Pattern of %v = %q, %v", short(l), text, e)
	}
	for _, at := range append(beyond(len(l)), 0, 1, len(l)-2, len(l)-1) {
		if from := From(l, at); from != -1 {
			t.Errorf("From(%v, %d) = %d", short(l), at, from)
		}
	}
}

// beyond tells places that no list of a length has.
func beyond(count int) []int {
	return []int{-1, -2, -1 << 62, -1 << 63, count, count + 1, count + 2, 1 << 40, 1<<63 - 1}
}

func TestP12_1_ExampleOfTheChapter(t *testing.T) {
	x := variable("X")
	want := []api.Node{{Kind: api.Is, Atom: atom("p", x)}, {Kind: api.Neg, A: 0}, {Kind: api.Is, Atom: atom("q", x)}, {Kind: api.Since, A: 1, B: 2}}
	const text = "(not p(X) since q(X))"
	if s, e := Text(want); s != text || e != api.OK {
		t.Errorf("%q, %v", s, e)
	}
	if f, next, e := Read(signsOf(t, text), 0); !same(f, want) || next != 12 || e != api.OK {
		t.Errorf("%v, %d, %v", f, next, e)
	}
}

// Texts and lists written out, so that the plain means of the tests are held too.
func TestP12_1_TextsWrittenOut(t *testing.T) {
	isOf := func(name string) api.Node { return api.Node{Kind: api.Is, Atom: atom(name)} }
	for text, l := range map[string][]api.Node{
		"p":                               {isOf("p")},
		"not p":                           {isOf("p"), {Kind: api.Neg}},
		"before p":                        {isOf("p"), {Kind: api.Before}},
		"once p":                          {isOf("p"), {Kind: api.Once}},
		"always p":                        {isOf("p"), {Kind: api.Always}},
		"(p and q)":                       {isOf("p"), isOf("q"), {Kind: api.And, A: 0, B: 1}},
		"(p or q)":                        {isOf("p"), isOf("q"), {Kind: api.Or, A: 0, B: 1}},
		"(p since q)":                     {isOf("p"), isOf("q"), {Kind: api.Since, A: 0, B: 1}},
		"((p and q) or r)":                {isOf("p"), isOf("q"), {Kind: api.And, A: 0, B: 1}, isOf("r"), {Kind: api.Or, A: 2, B: 3}},
		"(p and (q or r))":                {isOf("p"), isOf("q"), isOf("r"), {Kind: api.Or, A: 1, B: 2}, {Kind: api.And, A: 0, B: 3}},
		"(not p since before once q)":     {isOf("p"), {Kind: api.Neg}, isOf("q"), {Kind: api.Once, A: 2}, {Kind: api.Before, A: 3}, {Kind: api.Since, A: 1, B: 4}},
		"not (p or always (q and not r))": {isOf("p"), isOf("q"), isOf("r"), {Kind: api.Neg, A: 2}, {Kind: api.And, A: 1, B: 3}, {Kind: api.Always, A: 4}, {Kind: api.Or, A: 0, B: 5}, {Kind: api.Neg, A: 6}},
		baseText:                          base(),
	} {
		if plainText(l) != text || !plainIsRight(l) {
			t.Errorf("%q is plainly %q, right: %v", text, plainText(l), plainIsRight(l))
		}
		holdRight(t, l)
		signs := signsOf(t, text)
		if f, next, e := Read(signs, 0); !same(f, l) || next != len(signs) || e != api.OK {
			t.Errorf("%q is read as %v, %d, %v; want %v", text, f, next, e, l)
		}
		if f, next, e := plainRead(signs, 0); !same(f, l) || next != len(signs) || e != api.OK {
			t.Errorf("%q is plainly read as %v, %d, %v; want %v", text, f, next, e, l)
		}
	}
	for text, p := range map[string]api.Pattern{
		"pattern a: p => q.": {Name: "a", Trigger: atom("p"), Nodes: is(atom("q"))},
		`pattern b_1: p(X, 1, not, "=>") => (not p(X) since q).`: {Name: "b_1", Trigger: atom("p", variable("X"), constant(num(1)), constant(sym("not")), constant(str("=>"))), Nodes: both(api.Since, over(api.Neg, is(atom("p", variable("X")))), is(atom("q")))},
	} {
		if s, e := Pattern(p); s != text || e != api.OK || plainPattern(p) != text {
			t.Errorf("%q, %v; plainly %q; want %q", s, e, plainPattern(p), text)
		}
		signs := signsOf(t, text)
		if s, next, e := ReadPattern(signs, 0); !samePattern(s, p) || next != len(signs) || e != api.OK {
			t.Errorf("%v, %d, %v; want %v", s, next, e, p)
		}
		if s, next, e := plainReadPattern(signs, 0); !samePattern(s, p) || next != len(signs) || e != api.OK {
			t.Errorf("plainly %v, %d, %v; want %v", s, next, e, p)
		}
	}
}

func TestP12_1_FromWrittenOut(t *testing.T) {
	for at, want := range []int{0, 0, 2, 2, 2, 0, 0, 7, 8, 7, 0} {
		if from := From(base(), at); from != want {
			t.Errorf("From(base, %d) = %d; want %d", at, from, want)
		}
	}
}

func TestP12_1_RightFormulas(t *testing.T) {
	for _, l := range rightFormulas() {
		if !plainIsRight(l) {
			t.Errorf("%v is plainly wrong", short(l))
		}
		holdRight(t, l)
	}
}

func TestP12_1_WrongAtoms(t *testing.T) {
	for _, a := range wrongAtoms() {
		holdWrong(t, is(a))
		for at, n := range base() {
			if n.Kind == api.Is {
				l := base()
				l[at].Atom = a
				holdWrong(t, l)
			}
		}
	}
}

// nodes tells all nodes of kinds, of atoms and of places.
func nodes(kinds []int, atoms []api.Atom, places []int) []api.Node {
	var l []api.Node
	for _, kind := range kinds {
		for _, a := range atoms {
			for _, A := range places {
				for _, B := range places {
					l = append(l, api.Node{Kind: kind, Atom: a, A: A, B: B})
				}
			}
		}
	}
	return l
}

func oddAtoms() []api.Atom {
	return []api.Atom{{}, {Args: []api.Term{}}, atom("p"), atom("p", variable("X")), {Args: []api.Term{variable("X")}}, {Args: []api.Term{{}}}, atom("not"), atom(" ")}
}

func TestP12_1_AllNodesAtEachPlace(t *testing.T) {
	kinds := []int{-1 << 63, -1, 0, 1, 2, 3, 4, 5, 6, 7, 8, 9, 1<<32 + 2, 1<<63 - 1}
	for _, l := range [][]api.Node{p(), chain(3), leftward(2), base()} {
		places := []int{-1 << 63, -1, 1<<63 - 1}
		for at := range len(l) + 1 {
			places = append(places, at)
		}
		for at := range l {
			for _, n := range nodes(kinds, oddAtoms(), places) {
				holdFormula(t, with(l, at, n))
			}
		}
	}
}

func TestP12_1_AllShortListsOfNodes(t *testing.T) {
	var lists func(l, of []api.Node, left int)
	lists = func(l, of []api.Node, left int) {
		holdFormula(t, l)
		if left > 0 {
			for _, n := range of {
				lists(append(slices.Clip(l), n), of, left-1)
			}
		}
	}
	kinds := []int{api.Is, api.Neg, api.And, api.Since, 0}
	lists(nil, nodes(kinds, []api.Atom{{}, atom("p")}, []int{-1, 0, 1, 2}), 2)
	few := func(count int) []api.Node {
		l := p()
		for a := range count - 1 {
			l = append(l, api.Node{Kind: api.Once, A: a})
			for b := range count - 1 {
				l = append(l, api.Node{Kind: api.Or, A: a, B: b})
			}
		}
		return l
	}
	lists(nil, few(4), 4)
	lists(slices.Repeat(p(), 2), few(5), 3)
	lists(slices.Repeat(p(), 3), few(6), 3)
}

// Each node's A and B moved, each node left out, doubled, and turned with another one.
func TestP12_1_MovedNodes(t *testing.T) {
	for _, l := range [][]api.Node{base(), full(), wide(9), leftward(12), rightward(12), both(api.And, chain(9), rightward(4))} {
		for i := range l {
			holdFormula(t, without(l, i))
			holdFormula(t, wedged(l, i, l[i]))
			holdFormula(t, wedged(l, i, p()[0]))
			for j := range i {
				turned := slices.Clone(l)
				turned[i], turned[j] = turned[j], turned[i]
				holdFormula(t, turned)
			}
			for a := range len(l) {
				n := l[i]
				n.A = a
				holdFormula(t, with(l, i, n))
				n.B = a
				holdFormula(t, with(l, i, n))
				n.A = l[i].A
				holdFormula(t, with(l, i, n))
			}
		}
	}
}

func TestP12_1_CountsOfNodes(t *testing.T) {
	holdWrong(t, nil)
	holdWrong(t, []api.Node{})
	holdRight(t, full())
	holdRight(t, over(api.Always, over(api.Always, wide(19))))
	holdRight(t, both(api.And, wide(18), chain(4)))
	for _, l := range [][]api.Node{wide(21), over(api.Neg, full()), both(api.And, wide(11), wide(10)), both(api.And, wide(18), chain(5)), over(api.Once, wide(21)), wide(1000)} {
		if plainIsRight(l) {
			t.Errorf("%v is plainly right", short(l))
		}
		holdWrong(t, l)
	}
	holdWrong(t, slices.Repeat(p(), 40))
	holdWrong(t, slices.Repeat(p(), 100000))
	holdWrong(t, make([]api.Node, 100000))
}

func TestP12_1_NodesInOneAnother(t *testing.T) {
	for _, l := range [][]api.Node{
		chain(12), leftward(12), rightward(12), both(api.And, chain(11), p()), both(api.And, p(), chain(11)), over(api.Neg, leftward(11)), over(api.Neg, rightward(11)), both(api.Or, chain(11), chain(11)), both(api.Since, chain(3), over(api.Once, both(api.And, p(), chain(9)))),
	} {
		if plainDepth(l, len(l)-1) != 12 {
			t.Errorf("%v is plainly of %d", short(l), plainDepth(l, len(l)-1))
		}
		holdRight(t, l)
		for _, kind := range prefixes() {
			holdWrong(t, over(kind, l))
		}
		for _, kind := range infixes() {
			holdWrong(t, both(kind, l, p()))
			holdWrong(t, both(kind, p(), l))
		}
	}
	for _, depth := range []int{13, 14, 20, 39, 40, 41} {
		holdWrong(t, chain(depth))
		holdWrong(t, leftward(depth))
		holdWrong(t, rightward(depth))
	}
}

// nil and empty are the same (R2), spare room too.
func TestP12_1_NilIsEmpty(t *testing.T) {
	for _, spare := range []int{0, 3} {
		l := base()
		for i := range l {
			if len(l[i].Atom.Args) == 0 {
				l[i].Atom.Args = make([]api.Term, 0, spare)
			}
		}
		holdRight(t, l)
		if plainText(l) != baseText {
			t.Errorf("%q", plainText(l))
		}
	}
	for _, l := range [][]api.Token{nil, {}, signsOf(t, "p")} {
		holdRead(t, l[:0], 0)
		holdReadPattern(t, l[:0], 0)
	}
}

func TestP12_1_Patterns(t *testing.T) {
	hold := func(p api.Pattern) {
		t.Helper()
		text, e := Pattern(p)
		if plainIsRightPattern(p) != (e == api.OK) || e == api.OK && text != plainPattern(p) || e != api.OK && (text != "" || e != api.ErrFormula) {
			t.Errorf("Pattern(%v) = %q, %v", short(p), text, e)
		}
	}
	hold(api.Pattern{})
	for _, name := range append(rightNames(), wrongNames()...) {
		hold(api.Pattern{Name: name, Trigger: atom("t"), Nodes: p()})
		hold(api.Pattern{Name: name, Trigger: atom("t"), Nodes: base()})
		hold(api.Pattern{Name: name, Trigger: atom("t", variable("X")), Nodes: slices.Repeat(p(), 2)})
		hold(api.Pattern{Name: name, Trigger: atom("not"), Nodes: p()})
		hold(api.Pattern{Name: name, Nodes: p()})
	}
	for _, a := range append(rightAtoms(), wrongAtoms()...) {
		hold(api.Pattern{Name: "a", Trigger: a, Nodes: p()})
		hold(api.Pattern{Name: "a", Trigger: a, Nodes: base()})
		hold(api.Pattern{Name: "a", Trigger: a})
		hold(api.Pattern{Name: "a", Trigger: a, Nodes: chain(13)})
	}
}

// The longest texts there are of right formulas and patterns stay within MaxText: neither is ever too long.
func TestP12_1_LongestTexts(t *testing.T) {
	longest := api.Pattern{Name: strings.Repeat("a", api.MaxName), Trigger: longAtom(), Nodes: longest()}
	text, e := Pattern(longest)
	if want := 8 + 24 + 2 + 644 + 4 + 20*644 + 19*9 + 7 + 1; len(text) != want || want > api.MaxText || text != plainPattern(longest) || e != api.OK {
		t.Errorf("%d bytes, %v; want %d", len(text), e, want)
	}
	holdRight(t, longest.Nodes)
}

// No right formula's or pattern's text is too long, so that what would refuse one is held by itself.
func TestP12_1_TextsThatAreTooLong(t *testing.T) {
	for count, want := range map[int]api.Errno{0: api.OK, 1: api.OK, 13741: api.OK, api.MaxText - 1: api.OK, api.MaxText: api.OK, api.MaxText + 1: api.ErrLen, 2 * api.MaxText: api.ErrLen} {
		whole := strings.Repeat("p", count)
		if text, e := bounded(whole); e != want || e == api.OK && text != whole || e != api.OK && text != "" {
			t.Errorf("a text of %d bytes: %q, %v", count, short(text), e)
		}
	}
}

// Places beyond the list are refused ahead of all else, with no place told.
func TestP12_1_PlacesBeyondTheList(t *testing.T) {
	for _, l := range [][]api.Token{nil, {}, {{}}, signsOf(t, "p"), signsOf(t, "pattern"), signsOf(t, baseText), signsOf(t, "pattern a: p => q."), signsOf(t, "not not")} {
		for _, at := range beyond(len(l) + 1) {
			if f, next, e := Read(l, at); len(f) != 0 || next != 0 || e != api.ErrArg {
				t.Errorf("Read(%v, %d) = %v, %d, %v", l, at, f, next, e)
			}
			if p, next, e := ReadPattern(l, at); !isZero(p) || next != 0 || e != api.ErrArg {
				t.Errorf("ReadPattern(%v, %d) = %v, %d, %v", l, at, p, next, e)
			}
		}
		if f, next, e := Read(l, len(l)); len(f) != 0 || next != len(l) || e != api.ErrText {
			t.Errorf("Read(%v) at its end = %v, %d, %v", l, f, next, e)
		}
		if p, next, e := ReadPattern(l, len(l)); !isZero(p) || next != len(l) || e != api.ErrText {
			t.Errorf("ReadPattern(%v) at its end = %v, %d, %v", l, p, next, e)
		}
	}
}

// rightSigns tells one sign of each letter, and some that may stand nowhere.
func rightSigns() []api.Token {
	l := []api.Token{token(api.TokVar, "X"), token(api.TokNum, "-1"), token(api.TokNum, "007"), token(api.TokStr, `"\""`)}
	for _, s := range append(kept(), "p") {
		l = append(l, token(api.TokName, s))
	}
	for _, s := range strings.Fields("( ) [ ] , . : / + * - = != < <= -> =>") {
		l = append(l, token(api.TokSign, s))
	}
	return l
}

// eachList tells all lists that go on from a beginning by up to so many of the signs.
func eachList(l, signs []api.Token, most int, tell func([]api.Token)) {
	tell(l)
	if most == 0 {
		return
	}
	for _, x := range signs {
		eachList(slices.Concat(l, []api.Token{x}), signs, most-1, tell)
	}
}

// few tells signs of their texts.
func few(t *testing.T, texts string) []api.Token {
	t.Helper()
	var l []api.Token
	for _, s := range strings.Fields(texts) {
		l = append(l, signsOf(t, s)...)
	}
	return l
}

func TestP12_1_AllShortLists(t *testing.T) {
	for _, ahead := range []string{"", "not", "(", "p(1", "(p and", "(p(X) since (not q or r)"} {
		eachList(signsOf(t, ahead), rightSigns(), 3, func(l []api.Token) { holdRead(t, l, 0) })
	}
	for _, ahead := range []string{"", "pattern a:", "pattern a: t", "pattern a: t(X) =>", "pattern a: t => p"} {
		eachList(signsOf(t, ahead), rightSigns(), 3, func(l []api.Token) { holdReadPattern(t, l, 0) })
	}
	eachList(nil, few(t, "p not ( ) and X ,"), 6, func(l []api.Token) { holdRead(t, l, 0) })
	eachList(signsOf(t, "(p or ("), few(t, "p once ( ) since ,"), 6, func(l []api.Token) { holdRead(t, l, 0) })
	eachList(signsOf(t, "pattern a: t =>"), few(t, "p always ( ) or ."), 6, func(l []api.Token) { holdReadPattern(t, l, 0) })
}

// longTexts tells texts of formulas, right ones and others whose signs fit, and the like.
func longTexts() []string {
	return []string{
		baseText, "p", "not p(X, Y)", "(not p(X) since q(X))", plainText(wide(6)), plainText(full()),
		`before once always not (p(not, and, "a", -1) since (q(X, 007, since) or before r))`,
		"((p(1, 2, 3, 4, 5, 6) and q) or not r(1, 2, 3, 4, 5, 6, 7))", plainText(chain(13)), plainText(leftward(13)), "p and q", "(p and q) and r", "p not q",
	}
}

// longPatterns tells patterns of them.
func longPatterns() []string {
	l := []string{"pattern a: t(1, 2, 3, 4, 5, 6) => p.", "pattern aB_1: t(X, not, \"=>\", -1) => (p(X) or q).", "pattern a: t => p. pattern b: t => q."}
	for _, text := range longTexts() {
		l = append(l, "pattern a: t(X) => "+text+".")
	}
	return l
}

// Long lists with one sign left out, put in or put in another's place.
func TestP12_1_EachSignOfLongLists(t *testing.T) {
	each := func(text string, hold func(*testing.T, []api.Token, int)) {
		l := signsOf(t, text)
		for i := range l {
			hold(t, l, i)
			hold(t, l[:i], 0)
			hold(t, without(l, i), 0)
			for _, x := range rightSigns() {
				hold(t, with(l, i, x), 0)
				hold(t, wedged(l, i, x), 0)
			}
		}
		for _, x := range rightSigns() {
			hold(t, append(slices.Clip(l), x), 0)
		}
	}
	for _, text := range longTexts() {
		each(text, holdRead)
	}
	for _, text := range longPatterns() {
		each(text, holdReadPattern)
		each(text, holdRead)
	}
}

// From wherever one begins, each place told is one of the whole list.
func TestP12_1_PlacesAreOfTheWholeList(t *testing.T) {
	for _, ahead := range []string{"x", "not", "( (", "p and", "pattern", "pattern a : t =>", "pattern a: t => p."} {
		from := len(signsOf(t, ahead))
		each := func(text string, hold func(*testing.T, []api.Token, int)) {
			l := signsOf(t, ahead+" "+text)
			for i := from; i <= len(l); i++ {
				hold(t, l[:i], from)
				if i < len(l) {
					hold(t, with(l, i, token(api.TokSign, "->")), from)
				}
			}
		}
		for _, text := range longTexts() {
			each(text, holdRead)
		}
		for _, text := range longPatterns() {
			each(text, holdReadPattern)
		}
	}
}

// Pairs of signs put in other signs' places: the first fault is told.
func TestP12_1_PairsOfFaults(t *testing.T) {
	signs := few(t, "p not X 007 ( ) , . and drop =>")
	each := func(text string, hold func(*testing.T, []api.Token, int)) {
		l := signsOf(t, text)
		for i := range l {
			for j := range i {
				for _, x := range signs {
					for _, y := range signs {
						hold(t, with(with(l, i, x), j, y), 0)
					}
				}
			}
		}
	}
	each("(not p(X, 1) since (q and once r(not)))", holdRead)
	each("pattern a: t(X) => (not p(X) since q).", holdReadPattern)
}

// oddSigns tells texts under each kind, of their own one and of others: few of them are signs that a text may have.
func oddSigns() []api.Token {
	texts := append(kept(),
		"", " ", "a", "not ", " not", "Not", "not\n", "nOt", "notp", "pattern ", "Pattern", "X", "1", "-1", "00", "-0", `"a"`, `""`, `"not"`, "(", ")", ",", ".", ":", "[", "]", "+", "-", "*", "=", "!=", "<", "<=", "->", "=>", "/", "((", "()", "=>.", "==", "<>", ">", "!", "a b", "a ", " a", "a%", "%", "é", "_", "\x00", "\xff", "a\x00",
		"X ", "X-1", "1 ", " 1", "+1", "--1", "1_0", "0x1", "1.0", "4611686018427387904", "-4611686018427387904", "4611686018427387905", "-4611686018427387905", "9223372036854775807", "18446744073709551616", strings.Repeat("9", 1000), strings.Repeat("0", 1000)+"7",
		`"`, `"a`, `"a" `, `"a""b"`, `"\n"`, "\"\n\"", `"`+strings.Repeat("x", 60)+`"`, `"`+strings.Repeat("x", 61)+`"`,
		strings.Repeat("a", 24), strings.Repeat("a", 25), strings.Repeat("X", 24), strings.Repeat("X", 25), strings.Repeat("a", 20001), strings.Repeat("(", 20001),
	)
	var l []api.Token
	for kind := -1; kind <= api.TokSign+1; kind++ {
		for _, text := range texts {
			l = append(l, token(kind, text))
		}
	}
	return append(l, token(1<<62, "p"), token(-1<<63, "not"))
}

// Signs that no text has fit nowhere; those that one has fit by their kind.
func TestP12_1_OddSigns(t *testing.T) {
	for _, x := range oddSigns() {
		l := signsOf(t, "(not p(X) since (q or before r))")
		for i := range l {
			holdRead(t, with(l, i, x), 0)
		}
		l = signsOf(t, "pattern a: t(X, 1) => (p and always q).")
		for i := range l {
			holdReadPattern(t, with(l, i, x), 0)
		}
		// Behind a formula anything may stand.
		holdRead(t, append(signsOf(t, "(p and q)"), x), 0)
		holdRead(t, append(signsOf(t, "not p"), x), 0)
		holdReadPattern(t, append(signsOf(t, "pattern a: p => q."), x), 0)
	}
}

// The place of a sign within its text does not count.
func TestP12_1_PlacesOfSignsDoNotCount(t *testing.T) {
	for _, text := range []string{baseText, "pattern a: t => " + baseText + "."} {
		l := signsOf(t, text)
		for i := range l {
			l[i].At = api.Pos{Line: -i, Col: 7}
		}
		holdRead(t, l, 0)
		holdReadPattern(t, l, 0)
	}
}

// reads and refuses hold the place behind the formula that is read, or the place at which none is; readsPattern and refusesPattern that of a pattern.
func reads(t *testing.T, text string, at, behind int) {
	t.Helper()
	if f, next, e := Read(signsOf(t, text), at); len(f) == 0 || next != behind || e != api.OK {
		t.Errorf("Read(%q, %d) = %v, %d, %v; want one up to %d", short(text), at, short(f), next, e, behind)
	}
}

func refuses(t *testing.T, text string, at, place int) {
	t.Helper()
	if f, next, e := Read(signsOf(t, text), at); len(f) != 0 || next != place || e != api.ErrText {
		t.Errorf("Read(%q, %d) = %v, %d, %v; want none, at %d", short(text), at, short(f), next, e, place)
	}
}

func readsPattern(t *testing.T, text string, at, behind int) {
	t.Helper()
	if p, next, e := ReadPattern(signsOf(t, text), at); isZero(p) || next != behind || e != api.OK {
		t.Errorf("ReadPattern(%q, %d) = %v, %d, %v; want one up to %d", short(text), at, short(p), next, e, behind)
	}
}

func refusesPattern(t *testing.T, text string, at, place int) {
	t.Helper()
	if p, next, e := ReadPattern(signsOf(t, text), at); !isZero(p) || next != place || e != api.ErrText {
		t.Errorf("ReadPattern(%q, %d) = %v, %d, %v; want none, at %d", short(text), at, short(p), next, e, place)
	}
}

// A pattern's name and an atom's are no words; a symbol may be one.
func TestP12_1_WordsAreNoNames(t *testing.T) {
	for _, word := range kept() {
		refusesPattern(t, "pattern "+word+": t => p.", 0, 1)
		refusesPattern(t, "pattern a: "+word+" => p.", 0, 3)
		refusesPattern(t, "pattern a: "+word+"(X) => p.", 0, 3)
		readsPattern(t, "pattern a: t("+word+") => p("+word+", "+word+").", 0, 15)
		reads(t, "(p("+word+") and q("+word+"))", 0, 11)
		if word != "pattern" {
			refusesPattern(t, word+" a: t => p.", 0, 0)
		}
		if !slices.Contains(strings.Fields("not before once always"), word) {
			refuses(t, word, 0, 0)
			refuses(t, word+"(X)", 0, 0)
			refuses(t, "not "+word+" p", 0, 1)
			refuses(t, "(p and "+word+" q)", 0, 3)
		} else {
			reads(t, word+" p", 0, 2)
			refuses(t, word, 0, 1)
			refuses(t, word+"(X)", 0, 2)
		}
		if slices.Contains(strings.Fields("and or since"), word) {
			reads(t, "(p "+word+" q)", 0, 5)
		} else {
			refuses(t, "(p "+word+" q)", 0, 2)
		}
		reads(t, "p "+word+" q", 0, 1)
	}
	readsPattern(t, "pattern patterns: nots => (andy or oncer).", 0, 11)
}

// tooMuch tells texts of formulas whose signs fit, but that are not right: of too many nodes, in one another or in all, or of an atom with too many Args.
func tooMuch() []string {
	six := "(X" + strings.Repeat(", X", 5) + ")"
	return []string{
		plainText(chain(13)), plainText(chain(14)), plainText(leftward(13)), plainText(rightward(13)), "not " + plainText(leftward(12)), "(p and " + plainText(chain(12)) + ")", "(" + plainText(chain(12)) + " or p)",
		plainText(wide(21)), "not " + plainText(full()), "(" + plainText(full()) + " and p)", "(p since " + plainText(full()) + ")", plainText(wide(100)), plainText(chain(40)), plainText(chain(41)), plainText(chain(42)), strings.Repeat("always ", 1000) + "p",
		"p" + six, "not p" + six, "(p" + six + " and q)", "(p and q" + six + ")", "(p" + six + " since p" + six + ")", "before (p or (q and once r" + six + "))", "p(X" + strings.Repeat(`, ")"`, 2000) + ")", "(p(and, or, and, or, and, or) and q)",
		"not " + plainText(wide(21)) + "", "(p" + six + " and " + plainText(wide(30)) + ")", plainText(both(api.Since, leftward(20), rightward(20))),
	}
}

// Each sign fits, but the formula is not right: the place where it begins. One does not: that place, even far behind.
func TestP12_1_WrongAsAWhole(t *testing.T) {
	for _, text := range tooMuch() {
		last := len(signsOf(t, text))
		for _, behind := range []string{"", " x", ")", ".", " and q", ", (", " not", " 1", " X"} {
			refuses(t, text+behind, 0, 0)
			refuses(t, "x ( "+text+behind, 2, 2)
		}
		for _, behind := range []string{"", ")", ".", ", q", " X)", " not q", " 1"} {
			refuses(t, "("+text+behind, 0, 1+last)
			refuses(t, "x ( ("+text+behind, 2, 3+last)
		}
		refuses(t, "(p or "+text+" and", 0, 3+last)
		refuses(t, "("+text+" or (", 0, 3+last)
		refuses(t, "("+text+" or p", 0, 3+last)
		refuses(t, "("+text+" or p q", 0, 3+last)
		refuses(t, "("+text+" or p)", 0, 0)
		refuses(t, "not ("+text+" since not p)", 0, 0)
	}
}

func TestP12_1_PatternsWrongAsAWhole(t *testing.T) {
	six := "(X" + strings.Repeat(", X", 5) + ")"
	texts := []string{"pattern a: t" + six + " => p", "pattern a: t" + six + " => not q" + six, "pattern a: t(1" + strings.Repeat(", 1", 2000) + ") => p"}
	for _, text := range tooMuch() {
		texts = append(texts, "pattern a: t => "+text, "pattern a: t(X, 1) => "+text)
	}
	for _, text := range texts {
		last := len(signsOf(t, text))
		for _, behind := range []string{".", ". x", ". .", ". pattern b: t => p.", ".("} {
			refusesPattern(t, text+behind, 0, 0)
			refusesPattern(t, "x ( "+text+behind, 2, 2)
		}
		for _, behind := range []string{"", " x", ")", " and p.", ",", " =>", ":", " not", " 1.", " -> p."} {
			refusesPattern(t, text+behind, 0, last)
			refusesPattern(t, "x ( "+text+behind, 2, 2+last)
		}
	}
	// The trigger is too much, and what stands behind it does not fit.
	refusesPattern(t, "pattern a: t"+six, 0, 17)
	refusesPattern(t, "pattern a: t"+six+" -> p.", 0, 17)
	refusesPattern(t, "pattern a: t"+six+" => not", 0, 19)
	refusesPattern(t, "pattern a: t"+six+" => X.", 0, 18)
	refusesPattern(t, "pattern a: t(X, X, X, X, X, X, X X) => p.", 0, 18)
}

// What is as much as may be is right.
func TestP12_1_AsMuchAsMayBe(t *testing.T) {
	five := "(X" + strings.Repeat(", X", 4) + ")"
	for _, text := range []string{plainText(full()), plainText(longest()), plainText(chain(12)), plainText(leftward(12)), plainText(rightward(12)), "(" + plainText(chain(11)) + " and " + plainText(leftward(11)) + ")", "p" + five, "(not p" + five + " since p" + five + ")"} {
		last := len(signsOf(t, text))
		reads(t, text, 0, last)
		reads(t, "x ( "+text+" .", 2, last+2)
		if len(text) < api.MaxText/2 {
			reads(t, text+text, 0, last)
			reads(t, text+" and "+text+")", 0, last)
		}
		readsPattern(t, "pattern a: t"+five+" => "+text+".", 0, last+17)
		readsPattern(t, "x ( pattern "+strings.Repeat("a", 24)+": t => "+text+". (", 2, last+8)
	}
}

// The brackets of formulas do not count, as those of expressions do.
func TestP12_1_ManyBrackets(t *testing.T) {
	for _, count := range []int{11, 12, 15, 16, 17, 50, 1000} {
		for _, way := range []string{"(", "(p and ", "( % so\n", "((p or q) since ", "not (", "(p(X) and not "} {
			ahead := strings.Repeat(way, count)
			last := len(signsOf(t, ahead))
			refuses(t, ahead, 0, last)
			refuses(t, ahead+")", 0, last)
			refuses(t, ahead+"X", 0, last)
			refuses(t, ahead+"and", 0, last)
			refuses(t, ahead+"p", 0, last+1)
			refuses(t, "q r "+ahead+"p.", 2, last+3)
			refusesPattern(t, "pattern a: t => "+ahead, 0, last+5)
			refusesPattern(t, "pattern a: t => "+ahead+".", 0, last+5)
			refusesPattern(t, "pattern a: t => "+ahead+"p.", 0, last+6)
		}
	}
	refusesPattern(t, "pattern a: "+strings.Repeat("(", 17), 0, 3)
	refusesPattern(t, "pattern a: t"+strings.Repeat("(", 17), 0, 5)
	refuses(t, "p"+strings.Repeat("(", 17), 0, 2)
	refuses(t, "p()", 0, 2)
}

// Very long lists end, and in good time (R1).
func TestP12_1_VeryLongLists(t *testing.T) {
	const count = 100000
	closing := slices.Repeat(signsOf(t, ")"), count)
	for _, c := range []struct{ ahead, again, middle, closed string }{
		{"", "not", "p", ""}, {"", "always", "p(X)", ""}, {"", "(", "p", " and q)"}, {"", "(p since", "q", ")"}, {"", "not (p or before", "q", ")"}, {"p(1", ", 2", ")", ""}, {"(p", "and (q(X) or", "p", ")"},
	} {
		ahead, again, middle, closed := signsOf(t, c.ahead), signsOf(t, c.again), signsOf(t, c.middle), signsOf(t, c.closed)
		l := slices.Concat(ahead, slices.Repeat(again, count))
		whole := slices.Concat(l, middle, slices.Repeat(closed, count))
		if c.ahead == "(p" {
			whole = slices.Concat(signsOf(t, "(p and"), slices.Repeat(signsOf(t, "(q(X) or"), count), middle, closing, signsOf(t, ")"))
			l = whole[:len(whole)-count-1-len(middle)]
		}
		holdLong(t, l, l, len(l))
		holdLong(t, whole, whole, 0)
		if c.closed != "" {
			holdLong(t, whole[:len(whole)-1], whole, len(whole)-1)
		}
		// A sign that does not fit, in the middle of those that do.
		holdLong(t, slices.Concat(l, signsOf(t, "/ p")), whole, len(l))
	}
}

// holdLong holds that a list of signs is refused at a place, as a formula, and as a pattern's.
func holdLong(t *testing.T, l, whole []api.Token, place int) {
	t.Helper()
	if f, next, e := Read(l, 0); len(f) != 0 || next != place || e != api.ErrText {
		t.Errorf("Read(%v) = %v, %d, %v; want none, at %d", short(l[:min(20, len(l))]), short(f), next, e, place)
	}
	begun := signsOf(t, "pattern a: t =>")
	if len(l) == len(whole) && place == 0 {
		if p, next, e := ReadPattern(slices.Concat(begun, l), 0); !isZero(p) || next != len(begun)+len(l) || e != api.ErrText {
			t.Errorf("ReadPattern of %v = %v, %d, %v", short(l[:min(20, len(l))]), short(p), next, e)
		}
		l, place = slices.Concat(l, signsOf(t, ".")), -len(begun)
	}
	if p, next, e := ReadPattern(slices.Concat(begun, l), 0); !isZero(p) || next != len(begun)+place || e != api.ErrText {
		t.Errorf("ReadPattern of %v = %v, %d, %v; want none, at %d", short(l[:min(20, len(l))]), short(p), next, e, len(begun)+place)
	}
}

// bounds is where a piece of memory begins and ends.
type bounds struct{ from, to uintptr }

func pieceOf[T any](first *T, count int) []bounds {
	var one T
	if count == 0 {
		return nil
	}
	from := uintptr(unsafe.Pointer(first))
	return []bounds{{from, from + uintptr(count)*unsafe.Sizeof(one)}}
}

// room tells a list's piece, spare room too.
func room[T any](l []T) []bounds { return pieceOf(unsafe.SliceData(l), cap(l)) }

func textOf(s string) []bounds { return pieceOf(unsafe.StringData(s), len(s)) }

func piecesOfTokens(l []api.Token) []bounds {
	all := room(l)
	for _, x := range l[:cap(l)] {
		all = append(all, textOf(x.Text)...)
	}
	return all
}

func piecesOfAtom(a api.Atom) []bounds {
	all := slices.Concat(textOf(a.Name), room(a.Args))
	for _, x := range a.Args[:cap(a.Args)] {
		all = slices.Concat(all, textOf(x.Var), textOf(x.Val.S))
	}
	return all
}

func piecesOfNodes(l []api.Node) []bounds {
	all := room(l)
	for _, n := range l[:cap(l)] {
		all = append(all, piecesOfAtom(n.Atom)...)
	}
	return all
}

func piecesOfPattern(p api.Pattern) []bounds {
	return slices.Concat(textOf(p.Name), piecesOfAtom(p.Trigger), piecesOfNodes(p.Nodes))
}

func apart(t *testing.T, name string, a, b []bounds) {
	t.Helper()
	for _, p := range a {
		for _, q := range b {
			if p.from < q.to && q.from < p.to {
				t.Errorf("%s: memory is shared", name)
			}
		}
	}
}

// own holds that no two pieces of one answer share any.
func own(t *testing.T, name string, pieces []bounds) {
	t.Helper()
	for i := range pieces {
		apart(t, name, pieces[:i], pieces[i:i+1])
	}
}

// roomy tells a copy of the signs, down to the bytes, with signs in the spare room that would go on.
func roomy(t *testing.T, text, spare string) []api.Token {
	l := signsOf(t, text)
	all := slices.Concat(l, signsOf(t, spare))
	for i := range all {
		all[i].Text = strings.Clone(all[i].Text)
	}
	return all[:len(l)]
}

// What is handed in is not changed, what is answered is new memory, and spare room is not read (R2, R6).
func TestP12_1_MemoryOfReading(t *testing.T) {
	texts := append(longTexts(), longPatterns()...)
	for _, whole := range []string{baseText, "pattern a: t(X) => (not p(X, X) since once q)."} {
		l := signsOf(t, whole)
		for i := range l {
			texts = append(texts, lex.Join(l[:i]))
		}
	}
	for _, text := range texts {
		for _, spare := range []string{".", "p", "p.", "(X)", "(X).", "X)", "1).", ")", ")).", "and q)", "and q).", "q).", ", 1) and p).", "=> p.", ": t => p.", "a: t => p."} {
			signs := roomy(t, text, spare)
			plain := slices.Clip(slices.Clone(signs))
			before := fmt.Sprintf("%#v", signs[:cap(signs)])
			f, next, e := Read(signs, 0)
			if s, place, told := Read(plain, 0); !same(f, s) || next != place || e != told {
				t.Errorf("Read of %q reads spare room %q: %v, %d, %v; want %v, %d, %v", text, spare, f, next, e, s, place, told)
			}
			p, next, e := ReadPattern(signs, 0)
			if s, place, told := ReadPattern(plain, 0); !samePattern(p, s) || next != place || e != told {
				t.Errorf("ReadPattern of %q reads spare room %q: %v, %d, %v; want %v, %d, %v", text, spare, p, next, e, s, place, told)
			}
			if after := fmt.Sprintf("%#v", signs[:cap(signs)]); after != before {
				t.Errorf("%s was changed to %s", before, after)
			}
			apart(t, "Read of "+text, piecesOfNodes(f), piecesOfTokens(signs))
			own(t, "Read of "+text, piecesOfNodes(f))
			apart(t, "ReadPattern of "+text, piecesOfPattern(p), piecesOfTokens(signs))
			own(t, "ReadPattern of "+text, piecesOfPattern(p))
		}
	}
}

// Signs that share their bytes are read to a pattern that shares none.
func TestP12_1_SignsOfOneMemory(t *testing.T) {
	l := signsOf(t, "pattern long: long(Long, long) => (not long(Long) since (long(long, Long) or long)).")
	name, variable := strings.Clone("long"), strings.Clone("Long")
	for i, x := range l {
		switch x.Text {
		case name:
			l[i].Text = name
		case variable:
			l[i].Text = variable
		}
	}
	p, next, e := ReadPattern(l, 0)
	if isZero(p) || next != len(l) || e != api.OK {
		t.Fatal(p, next, e)
	}
	own(t, "ReadPattern", piecesOfPattern(p))
	apart(t, "ReadPattern", piecesOfPattern(p), piecesOfTokens(l))
	f, next, e := Read(l, 10)
	if len(f) == 0 || next != len(l)-1 || e != api.OK {
		t.Fatal(f, next, e)
	}
	own(t, "Read", piecesOfNodes(f))
	apart(t, "Read", piecesOfNodes(f), slices.Concat(piecesOfTokens(l), piecesOfPattern(p)))
}

// What is checked and written is neither changed nor read behind its length, and no text shares its memory.
func TestP12_1_MemoryOfCheckingAndWriting(t *testing.T) {
	p := pattern(base())
	p.Trigger.Args = append(p.Trigger.Args, variable("Spare"), api.Term{})[:1]
	p.Nodes[0].Atom.Args = append(p.Nodes[0].Atom.Args, variable("Spare"), api.Term{})[:1]
	p.Nodes = append(p.Nodes, api.Node{}, api.Node{Kind: api.Neg, A: 10})[:11]
	spare := func() string {
		return fmt.Sprintf("%#v %#v %#v %#v", p, p.Trigger.Args[:3], p.Nodes[0].Atom.Args[:3], p.Nodes[:13])
	}
	before := spare()
	holdRight(t, p.Nodes)
	if text, e := Pattern(p); text != "pattern a: t(X) => "+baseText+"." || e != api.OK {
		t.Errorf("%q, %v", text, e)
	}
	for count := range 11 {
		holdFormula(t, p.Nodes[:count])
	}
	if after := spare(); after != before {
		t.Errorf("%s was changed to %s", before, after)
	}
	f := is(atom(strings.Clone("name")))
	text, _ := Text(f)
	apart(t, text, textOf(text), piecesOfNodes(f))
}

// What is answered hangs on the arguments alone (R3).
func TestP12_1_TwiceTheSame(t *testing.T) {
	texts := append(longTexts(), "", "not", "((((((((((((((((((", "pattern", "pattern a: t => p.", "pattern a: t(1,2,3,4,5,6) => p.", "pattern b: t(X) => "+baseText+".")
	tell := func(text string) string {
		l := signsOf(t, text)
		f, next, e := Read(l, 0)
		s, eS := Text(f)
		p, nextP, eP := ReadPattern(l, 0)
		u, eU := Pattern(p)
		return fmt.Sprint(f, next, e, s, eS, p, nextP, eP, u, eU, Check(f), From(f, len(f)/2))
	}
	for _, text := range texts {
		first := tell(text)
		for _, other := range texts {
			tell(other)
			if again := tell(text); again != first {
				t.Errorf("%q is %s behind %q, not %s", text, again, other, first)
			}
		}
	}
}

func holdWritten(t *testing.T, l []api.Node) {
	t.Helper()
	text, e := Text(l)
	if e != api.OK {
		t.Fatalf("Text(%v): %v", short(l), e)
	}
	for _, c := range []struct{ ahead, behind string }{{"", ""}, {"q.\n", "\n."}, {"not (", ")"}, {"(q and ", " and r)"}} {
		from, signs := len(signsOf(t, c.ahead)), signsOf(t, c.ahead+text+c.behind)
		behind := len(signs) - len(signsOf(t, c.behind))
		if f, next, e := Read(signs, from); !same(f, l) || next != behind || e != api.OK {
			t.Errorf("%q of %v is read as %v, up to %d of %d, %v", text, short(l), short(f), next, behind, e)
		}
	}
	p := api.Pattern{Name: "b", Trigger: atom("t", variable("Y"), constant(sym("not"))), Nodes: l}
	holdWrittenPattern(t, p)
}

func holdWrittenPattern(t *testing.T, p api.Pattern) {
	t.Helper()
	text, e := Pattern(p)
	if e != api.OK {
		t.Fatalf("Pattern(%v): %v", short(p), e)
	}
	signs := signsOf(t, "q.\n"+text+"\npattern")
	if s, next, e := ReadPattern(signs, 2); !samePattern(s, p) || next != len(signs)-1 || e != api.OK {
		t.Errorf("%q of %v is read as %v, up to %d of %d, %v", text, short(p), short(s), next, len(signs), e)
	}
}

func TestP12_2_WrittenFormulasAreRead(t *testing.T) {
	for _, l := range rightFormulas() {
		holdWritten(t, l)
	}
}

func TestP12_2_WrittenPatternsAreRead(t *testing.T) {
	for _, name := range rightNames() {
		holdWrittenPattern(t, api.Pattern{Name: name, Trigger: atom(name), Nodes: is(atom(name))})
	}
	for _, a := range rightAtoms() {
		holdWrittenPattern(t, api.Pattern{Name: "a", Trigger: a, Nodes: over(api.Neg, is(a))})
	}
	holdWrittenPattern(t, api.Pattern{Name: strings.Repeat("a", api.MaxName), Trigger: longAtom(), Nodes: longest()})
}

// some tells one of l.
func some[T any](by *rand.Rand, l []T) T { return l[by.Intn(len(l))] }

// mixed tells a right formula of at most so many nodes and so many in one another, of parts that are picked at random, of a seed that stays.
func mixed(by *rand.Rand, atoms []api.Atom, count, depth int) []api.Node {
	switch pick := by.Intn(6); {
	case count == 1 || depth == 1 || pick == 0:
		return is(some(by, atoms))
	case count == 2 || pick == 1:
		return over(some(by, prefixes()), mixed(by, atoms, count-1, depth-1))
	default:
		first := 1 + by.Intn(count-2)
		return both(some(by, infixes()), mixed(by, atoms, first, depth-1), mixed(by, atoms, count-1-first, depth-1))
	}
}

func TestP12_2_MixedFormulas(t *testing.T) {
	by := rand.New(rand.NewSource(12))
	atoms, signs := rightAtoms(), rightSigns()
	for range 1000 {
		f := mixed(by, atoms, 40, 12)
		holdRight(t, f)
		holdWritten(t, f)
		i, j := by.Intn(len(f)), by.Intn(len(f))
		n := f[i]
		n.A, n.B, n.Kind = by.Intn(len(f)), by.Intn(len(f)), some(by, []int{n.Kind, 1 + by.Intn(8)})
		holdFormula(t, with(f, i, n))
		holdFormula(t, with(f, i, f[j]))
		holdFormula(t, without(f, i))
		holdFormula(t, f[:i])
		l := signsOf(t, "pattern a: t => "+plainText(f)+".")
		for range 3 {
			i, j := by.Intn(len(l)), by.Intn(len(l))
			for _, changed := range [][]api.Token{with(l, i, some(by, signs)), wedged(l, i, l[j]), without(l, i), slices.Concat(l[:i], l[j:])} {
				holdReadPattern(t, changed, 0)
				holdRead(t, changed, min(5, len(changed)))
			}
		}
	}
}

// Whatever text one is read from, it is written as one text, which is read as the same.
func TestP12_2_ReadOnesAreWritten(t *testing.T) {
	for text, want := range map[string]string{
		"not(p and q)": "not (p and q)", "(not p( X,007 )% so\n and\tonce q)": "(not p(X, 7) and once q)", "always before(p(-0)since(q or r(\"\\\"\",a)))": `always before (p(0) since (q or r("\"", a)))`, "p and q": "p", "(p or q).": "(p or q)",
	} {
		f, _, e := Read(signsOf(t, text), 0)
		if e != api.OK {
			t.Fatal(text, e)
		}
		if again, e := Text(f); again != want || e != api.OK {
			t.Errorf("%q, %v; want %q", again, e, want)
		}
		holdWritten(t, f)
	}
	p, next, e := ReadPattern(signsOf(t, " pattern\na :t ( X,01 )% so\n=>not ( p or q ) ."), 0)
	if text, told := Pattern(p); text != "pattern a: t(X, 1) => not (p or q)." || told != api.OK || next != 17 || e != api.OK {
		t.Errorf("%q, %v, %d, %v", text, told, next, e)
	}
}

func FuzzP12_2(f *testing.F) {
	for _, text := range append(append(longTexts(), longPatterns()...), "", "(((((((((((((", "not not", "p(1,2,3,4,5,6) and", "pattern not") {
		f.Add(text, 0, api.TokName, 3)
	}
	f.Fuzz(func(t *testing.T, text string, place, kind, at int) {
		if len(text) > 1000 {
			return
		}
		l, _, _ := lex.Tokens(text)
		if place >= 0 && place < len(l) {
			l[place].Kind = kind
		}
		for _, at := range []int{0, at} {
			if at < 0 || at > len(l) {
				continue
			}
			holdRead(t, l, at)
			holdReadPattern(t, l, at)
			if f, _, e := Read(l, at); e == api.OK {
				holdRight(t, f)
				holdWritten(t, f)
			}
			if p, _, e := ReadPattern(l, at); e == api.OK {
				holdWrittenPattern(t, p)
			}
		}
	})
}
