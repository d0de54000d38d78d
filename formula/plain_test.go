package formula

import (
	"fmt"
	"math/big"
	"regexp"
	"slices"
	"strings"
	"testing"

	"constable/api"
	"constable/lex"
)

// What the tests hold the package against: formulas made, held right or wrong, written and read by plainer means of the tests' own.

func num(n int) api.Value    { return api.Value{Kind: api.Int, N: n} }
func sym(s string) api.Value { return api.Value{Kind: api.Sym, S: s} }
func str(s string) api.Value { return api.Value{Kind: api.Str, S: s} }

func variable(name string) api.Term { return api.Term{Var: name} }
func constant(v api.Value) api.Term { return api.Term{Val: v} }

func atom(name string, terms ...api.Term) api.Atom { return api.Atom{Name: name, Args: terms} }

func prefixes() []int { return []int{api.Neg, api.Before, api.Once, api.Always} }
func infixes() []int  { return []int{api.And, api.Or, api.Since} }
func kept() []string {
	return strings.Fields("fact rule pattern not and or before once always since drop")
}

var wordOf = map[int]string{api.Neg: "not", api.Before: "before", api.Once: "once", api.Always: "always", api.And: "and", api.Or: "or", api.Since: "since"}

// is, over and both tell formulas of one node, and of one node more than their own ones.
func is(a api.Atom) []api.Node { return []api.Node{{Kind: api.Is, Atom: a}} }

func over(kind int, l []api.Node) []api.Node {
	return slices.Concat(l, []api.Node{{Kind: kind, A: len(l) - 1}})
}

func both(kind int, a, b []api.Node) []api.Node {
	l := slices.Clone(a)
	for _, n := range b {
		switch {
		case slices.Contains(prefixes(), n.Kind):
			n.A += len(a)
		case slices.Contains(infixes(), n.Kind):
			n.A, n.B = n.A+len(a), n.B+len(a)
		}
		l = append(l, n)
	}
	return append(l, api.Node{Kind: kind, A: len(a) - 1, B: len(l) - 1})
}

// p tells a formula of one atom.
func p() []api.Node { return is(atom("p")) }

// base is a right formula with each kind of node; what a call answers shares nothing with what another one does.
func base() []api.Node {
	left := over(api.Always, both(api.Or, over(api.Neg, is(atom("p", variable("X")))), over(api.Once, over(api.Before, is(atom("q", variable("X"), constant(num(-1))))))))
	return both(api.Since, left, both(api.And, is(atom("r", constant(sym("and")))), p()))
}

const baseText = "(always (not p(X) or once before q(X, -1)) since (r(and) and p))"

func pattern(nodes []api.Node) api.Pattern {
	return api.Pattern{Name: "a", Trigger: atom("t", variable("X")), Nodes: nodes}
}

func token(kind int, text string) api.Token { return api.Token{Kind: kind, Text: text} }

func without[T any](l []T, at int) []T     { return slices.Concat(l[:at], l[at+1:]) }
func with[T any](l []T, at int, x T) []T   { return slices.Concat(l[:at], []T{x}, l[at+1:]) }
func wedged[T any](l []T, at int, x T) []T { return slices.Concat(l[:at], []T{x}, l[at:]) }

func short(v any) string {
	s := fmt.Sprintf("%v", v)
	if len(s) > 300 {
		return s[:300] + ".."
	}
	return s
}

func signsOf(t *testing.T, text string) []api.Token {
	t.Helper()
	l, at, e := lex.Tokens(text)
	if e != api.OK {
		t.Fatalf("%q has no signs: %v, %v", short(text), at, e)
	}
	return l
}

// same takes nil and empty lists as one (R2).
func same(a, b []api.Node) bool {
	return slices.EqualFunc(a, b, func(a, b api.Node) bool {
		return a.Kind == b.Kind && sameAtom(a.Atom, b.Atom) && a.A == b.A && a.B == b.B
	})
}

func sameAtom(a, b api.Atom) bool { return a.Name == b.Name && slices.Equal(a.Args, b.Args) }

func samePattern(a, b api.Pattern) bool {
	return a.Name == b.Name && sameAtom(a.Trigger, b.Trigger) && same(a.Nodes, b.Nodes)
}

func isZero(p api.Pattern) bool { return samePattern(p, api.Pattern{}) }

// Plain holding: the chapter's words, one by one.

var (
	plainName = regexp.MustCompile(`\A[a-z][A-Za-z0-9_]{0,23}\z`)
	plainVar  = regexp.MustCompile(`\A[A-Z][A-Za-z0-9_]{0,23}\z`)
	plainStr  = regexp.MustCompile(`\A[ -~]{0,60}\z`)
)

func plainIsName(s string) bool { return plainName.MatchString(s) && !slices.Contains(kept(), s) }

func plainIsRightAtom(a api.Atom) bool {
	if !plainIsName(a.Name) || len(a.Args) > 5 {
		return false
	}
	for _, t := range a.Args {
		v := t.Val
		right := t.Var != "" && plainVar.MatchString(t.Var) && v == api.Value{} ||
			t.Var == "" && v.Kind == api.Int && v.S == "" && v.N >= -1<<62 && v.N <= 1<<62 ||
			t.Var == "" && v.Kind == api.Sym && v.N == 0 && plainName.MatchString(v.S) ||
			t.Var == "" && v.Kind == api.Str && v.N == 0 && plainStr.MatchString(v.S)
		if !right {
			return false
		}
	}
	return true
}

// plainOf tells the places of the nodes that a node is made of, and whether it is right by itself.
func plainOf(n api.Node, at int) ([]int, bool) {
	isNone := n.Atom.Name == "" && len(n.Atom.Args) == 0
	ahead := func(place int) bool { return place >= 0 && place < at }
	switch {
	case n.Kind == api.Is:
		return nil, plainIsRightAtom(n.Atom) && n.A == 0 && n.B == 0
	case slices.Contains(prefixes(), n.Kind):
		return []int{n.A}, isNone && ahead(n.A) && n.B == 0
	case slices.Contains(infixes(), n.Kind):
		return []int{n.A, n.B}, isNone && ahead(n.A) && ahead(n.B)
	}
	return nil, false
}

// plainOwn tells the places of a node and of its own ones, of nodes that are right by themselves, each the A or B of one at most.
func plainOwn(l []api.Node, at int) []int {
	all := []int{at}
	kids, _ := plainOf(l[at], at)
	for _, kid := range kids {
		all = append(all, plainOwn(l, kid)...)
	}
	slices.Sort(all)
	return all
}

func plainDepth(l []api.Node, at int) int {
	most := 0
	kids, _ := plainOf(l[at], at)
	for _, kid := range kids {
		most = max(most, plainDepth(l, kid))
	}
	return most + 1
}

// standsAhead tells whether places are one run that ends right ahead of one.
func standsAhead(places []int, at int) bool {
	for i, place := range places {
		if place != at-len(places)+i {
			return false
		}
	}
	return true
}

func plainIsRight(l []api.Node) bool {
	if len(l) < 1 || len(l) > 40 {
		return false
	}
	uses := make([]int, len(l))
	for at, n := range l {
		kids, ok := plainOf(n, at)
		if !ok {
			return false
		}
		for _, kid := range kids {
			uses[kid]++
		}
	}
	for _, count := range uses[:len(l)-1] {
		if count != 1 {
			return false
		}
	}
	for at, n := range l {
		kids, _ := plainOf(n, at)
		behind := at
		for _, kid := range slices.Backward(kids) {
			own := plainOwn(l, kid)
			if !standsAhead(own, behind) || own[len(own)-1] != kid {
				return false
			}
			behind = own[0]
		}
	}
	return plainDepth(l, len(l)-1) <= 12
}

func plainFrom(l []api.Node, at int) int {
	if !plainIsRight(l) || at < 0 || at >= len(l) {
		return -1
	}
	return plainOwn(l, at)[0]
}

func plainIsRightPattern(p api.Pattern) bool {
	return plainIsName(p.Name) && plainIsRightAtom(p.Trigger) && plainIsRight(p.Nodes)
}

// Plain writing.

func plainTerm(t api.Term) string {
	switch {
	case t.Var != "":
		return t.Var
	case t.Val.Kind == api.Int:
		return big.NewInt(int64(t.Val.N)).String()
	case t.Val.Kind == api.Sym:
		return t.Val.S
	default:
		return `"` + strings.NewReplacer(`"`, `\"`, `\`, `\\`).Replace(t.Val.S) + `"`
	}
}

func plainAtom(a api.Atom) string {
	var texts []string
	for _, t := range a.Args {
		texts = append(texts, plainTerm(t))
	}
	if len(texts) == 0 {
		return a.Name
	}
	return a.Name + "(" + strings.Join(texts, ", ") + ")"
}

func plainNode(l []api.Node, at int) string {
	n := l[at]
	switch {
	case n.Kind == api.Is:
		return plainAtom(n.Atom)
	case slices.Contains(prefixes(), n.Kind):
		return wordOf[n.Kind] + " " + plainNode(l, n.A)
	default:
		return fmt.Sprintf("(%s %s %s)", plainNode(l, n.A), wordOf[n.Kind], plainNode(l, n.B))
	}
}

func plainText(l []api.Node) string { return plainNode(l, len(l)-1) }

func plainPattern(p api.Pattern) string {
	return fmt.Sprintf("pattern %s: %s => %s.", p.Name, plainAtom(p.Trigger), plainText(p.Nodes))
}

// Plain reading: each sign is one letter, and a stack of what is still to come is held against the letters, one by one.

var plainSigns = [...]*regexp.Regexp{
	api.TokName: plainName,
	api.TokVar:  plainVar,
	api.TokNum:  regexp.MustCompile(`\A-?[0-9]+\z`),
	api.TokStr:  regexp.MustCompile(`\A"([ !#-\[\]-~]|\\["\\]){0,60}"\z`),
	api.TokSign: regexp.MustCompile(`\A([()\[\],.:/+*=<-]|!=|<=|->|=>)\z`),
}

// letter tells n for a name, P for pattern, x for a word that stands ahead of a formula, w for one between two, k for other words, v, #, s for a variable, a number, a string, a sign's own byte, g for =>, m for other signs of two, and ? for what no text has.
func letter(x api.Token) byte {
	if x.Kind < api.TokName || x.Kind > api.TokSign || !plainSigns[x.Kind].MatchString(x.Text) {
		return '?'
	}
	switch x.Kind {
	case api.TokName:
		switch {
		case x.Text == "pattern":
			return 'P'
		case slices.Contains(strings.Fields("not before once always"), x.Text):
			return 'x'
		case slices.Contains(strings.Fields("and or since"), x.Text):
			return 'w'
		case slices.Contains(kept(), x.Text):
			return 'k'
		}
		return 'n'
	case api.TokVar:
		return 'v'
	case api.TokNum:
		if bigOf(x).CmpAbs(new(big.Int).Lsh(big.NewInt(1), 62)) > 0 {
			return '?'
		}
		return '#'
	case api.TokStr:
		return 's'
	}
	switch {
	case x.Text == "=>":
		return 'g'
	case len(x.Text) > 1:
		return 'm'
	}
	return x.Text[0]
}

func bigOf(x api.Token) *big.Int {
	n, _ := new(big.Int).SetString(x.Text, 10)
	return n
}

// grammar tells what stands on the stack in place of a part, by the next letter (0: any other one, or none): F is a formula, A what may stand behind an atom's name, B what may behind a term, T any term.
var grammar = map[byte]map[byte]string{
	'F': {'x': "xF", '(': "(FwF)", 0: "nA"},
	'A': {'(': "(TB", 0: ""},
	'B': {',': ",TB", 0: ")"},
}

func grown(top, c byte) string {
	if s, ok := grammar[top][c]; ok {
		return s
	}
	return grammar[top][0]
}

func fits(top, c byte) bool {
	if top == 'T' {
		return strings.IndexByte("nPxwkv#s", c) >= 0
	}
	return top == c
}

// plainFit tells the place behind what the stack says, from a place of l on: false, and the place that is to be told, if it is not there.
func plainFit(stack string, l []api.Token, at int) (int, bool) {
	for i := at; ; i++ {
		c := byte(0)
		if i < len(l) {
			c = letter(l[i])
		}
		for stack != "" && grammar[stack[0]] != nil {
			stack = grown(stack[0], c) + stack[1:]
		}
		if stack == "" {
			return i, true
		}
		if i == len(l) || !fits(stack[0], c) {
			return i, false
		}
		stack = stack[1:]
	}
}

func plainTermOf(x api.Token) api.Term {
	switch x.Kind {
	case api.TokVar:
		return variable(x.Text)
	case api.TokName:
		return constant(sym(x.Text))
	case api.TokNum:
		return constant(num(int(bigOf(x).Int64())))
	default:
		return constant(str(strings.NewReplacer(`\"`, `"`, `\\`, `\`).Replace(x.Text[1 : len(x.Text)-1])))
	}
}

func plainAtomOf(l []api.Token) api.Atom {
	a := atom(l[0].Text)
	for i := 2; i < len(l); i += 2 {
		a.Args = append(a.Args, plainTermOf(l[i]))
	}
	return a
}

func kindOf(x api.Token) int {
	for kind, word := range wordOf {
		if x.Text == word {
			return kind
		}
	}
	return 0
}

// plainNodes tells the formula, right or wrong, of signs that fit.
func plainNodes(l []api.Token) []api.Node {
	switch letter(l[0]) {
	case 'x':
		return over(kindOf(l[0]), plainNodes(l[1:]))
	case '(':
		middle := middleOf(l)
		return both(kindOf(l[middle]), plainNodes(l[1:middle]), plainNodes(l[middle+1:len(l)-1]))
	default:
		return is(plainAtomOf(l))
	}
}

// middleOf tells the place of the word that stands in the first bracket alone.
func middleOf(l []api.Token) int {
	open := 0
	return slices.IndexFunc(l, func(x api.Token) bool {
		switch letter(x) {
		case '(':
			open++
		case ')':
			open--
		}
		return open == 1 && letter(x) == 'w'
	})
}

// plainRead and plainReadPattern tell what is to be told of a list, and of a place of it or its end.
func plainRead(l []api.Token, at int) ([]api.Node, int, api.Errno) {
	next, ok := plainFit("F", l, at)
	if !ok {
		return nil, next, api.ErrText
	}
	f := plainNodes(l[at:next])
	if !plainIsRight(f) {
		return nil, at, api.ErrText
	}
	return f, next, api.OK
}

func plainReadPattern(l []api.Token, at int) (api.Pattern, int, api.Errno) {
	next, ok := plainFit("Pn:nAgF.", l, at)
	if !ok {
		return api.Pattern{}, next, api.ErrText
	}
	middle := slices.IndexFunc(l[at:], func(x api.Token) bool { return letter(x) == 'g' }) + at
	p := api.Pattern{Name: l[at+1].Text, Trigger: plainAtomOf(l[at+3 : middle]), Nodes: plainNodes(l[middle+1 : next-1])}
	if !plainIsRightPattern(p) {
		return api.Pattern{}, at, api.ErrText
	}
	return p, next, api.OK
}

func holdRead(t *testing.T, l []api.Token, at int) {
	t.Helper()
	f, next, e := Read(l, at)
	want, place, told := plainRead(l, at)
	if !same(f, want) || next != place || e != told {
		t.Errorf("Read(%v, %d) = %v, %d, %v; want %v, %d, %v", short(l), at, short(f), next, e, short(want), place, told)
	}
}

func holdReadPattern(t *testing.T, l []api.Token, at int) {
	t.Helper()
	p, next, e := ReadPattern(l, at)
	want, place, told := plainReadPattern(l, at)
	if !samePattern(p, want) || next != place || e != told {
		t.Errorf("ReadPattern(%v, %d) = %v, %d, %v; want %v, %d, %v", short(l), at, short(p), next, e, short(want), place, told)
	}
}
