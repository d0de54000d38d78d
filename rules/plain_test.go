package rules

import (
	"fmt"
	"math/big"
	"reflect"
	"regexp"
	"slices"
	"strings"
	"testing"

	"constable/api"
	"constable/lex"
)

// What the tests hold the package against: rules made, written and read by plainer means of the tests' own.

func num(n int) api.Value    { return api.Value{Kind: api.Int, N: n} }
func sym(s string) api.Value { return api.Value{Kind: api.Sym, S: s} }
func str(s string) api.Value { return api.Value{Kind: api.Str, S: s} }

func variable(name string) api.Term { return api.Term{Var: name} }
func constant(v api.Value) api.Term { return api.Term{Val: v} }

func atom(name string, terms ...api.Term) api.Atom { return api.Atom{Name: name, Args: terms} }

func pushVar(name string) api.Op { return api.Op{Kind: api.PushVar, Var: name} }
func pushVal(v api.Value) api.Op { return api.Op{Kind: api.PushVal, Val: v} }
func do(kind int) api.Op         { return api.Op{Kind: kind} }
func steps(l ...api.Op) []api.Op { return l }

func has(a api.Atom) api.Cond { return api.Cond{Kind: api.Has, Atom: a} }
func not(a api.Atom) api.Cond { return api.Cond{Kind: api.Not, Atom: a} }

func compare(left []api.Op, how int, right []api.Op) api.Cond {
	return api.Cond{Kind: api.Guard, How: how, Left: left, Right: right}
}

func conds(l ...api.Cond) []api.Cond { return l }

func assert(name string, args ...[]api.Op) api.Act {
	return api.Act{Kind: api.Assert, Name: name, Args: args}
}
func retract(which int) api.Act   { return api.Act{Kind: api.Retract, Which: which} }
func acts(l ...api.Act) []api.Act { return l }
func hows() []int                 { return []int{api.Eq, api.Ne, api.Lt, api.Le} }
func doings() []int               { return []int{api.Add, api.Sub, api.Mul} }
func words() []string {
	return strings.Fields("fact rule pattern not and or before once always since drop")
}

// base is a right rule with each kind of condition and of act; what a call answers shares nothing with what another one does.
func base() api.Rule {
	return api.Rule{
		Name: "a", Prio: 5,
		Conds: conds(has(atom("p", variable("X"))), not(atom("q", variable("X"), constant(num(1)))), compare(steps(pushVar("X"), pushVal(num(2)), do(api.Mul)), api.Lt, steps(pushVal(num(3)))), has(atom("z"))),
		Acts:  acts(assert("r", steps(pushVar("X"), pushVal(num(1)), do(api.Add)), steps(pushVal(sym("b")))), retract(1), assert("s")),
	}
}

// small tells a right rule of one condition and one act.
func small() api.Rule {
	return api.Rule{Name: "a", Conds: conds(has(atom("p"))), Acts: acts(assert("r"))}
}

func token(kind int, text string) api.Token { return api.Token{Kind: kind, Text: text} }

func without[T any](l []T, at int) []T     { return slices.Concat(l[:at], l[at+1:]) }
func with[T any](l []T, at int, x T) []T   { return slices.Concat(l[:at], []T{x}, l[at+1:]) }
func wedged[T any](l []T, at int, x T) []T { return slices.Concat(l[:at], []T{x}, l[at:]) }

func short(v any) string {
	s := fmt.Sprintf("%v", v)
	if len(s) > 300 {
		return s[:300] + ".."
	}
	return s
}

func signsOf(t *testing.T, text string) []api.Token {
	t.Helper()
	l, at, e := lex.Tokens(text)
	if e != api.OK {
		t.Fatalf("%q has no signs: %v, %v", short(text), at, e)
	}
	return l
}

// same takes nil and empty lists as one (R2).
func same(a, b api.Rule) bool {
	sameAtom := func(a, b api.Atom) bool { return a.Name == b.Name && slices.Equal(a.Args, b.Args) }
	sameCond := func(a, b api.Cond) bool {
		return a.Kind == b.Kind && sameAtom(a.Atom, b.Atom) && a.How == b.How && slices.Equal(a.Left, b.Left) && slices.Equal(a.Right, b.Right)
	}
	sameAct := func(a, b api.Act) bool {
		return a.Kind == b.Kind && a.Name == b.Name && a.Which == b.Which && slices.EqualFunc(a.Args, b.Args, slices.Equal[[]api.Op])
	}
	return a.Name == b.Name && a.Prio == b.Prio && slices.EqualFunc(a.Conds, b.Conds, sameCond) && slices.EqualFunc(a.Acts, b.Acts, sameAct)
}

func isZero(r api.Rule) bool { return reflect.ValueOf(r).IsZero() }

// Plain writing.

func plainTerm(t api.Term) string {
	switch {
	case t.Var != "":
		return t.Var
	case t.Val.Kind == api.Int:
		return big.NewInt(int64(t.Val.N)).String()
	case t.Val.Kind == api.Sym:
		return t.Val.S
	default:
		return `"` + strings.NewReplacer(`"`, `\"`, `\`, `\\`).Replace(t.Val.S) + `"`
	}
}

func plainList(ahead string, texts []string, behind string) string {
	if len(texts) == 0 {
		return ""
	}
	return ahead + strings.Join(texts, ", ") + behind
}

func plainAtom(a api.Atom) string {
	var texts []string
	for _, t := range a.Args {
		texts = append(texts, plainTerm(t))
	}
	return a.Name + plainList("(", texts, ")")
}

// plainPart tells the text of the part that l ends with, and the steps ahead of that part.
func plainPart(l []api.Op) (string, []api.Op) {
	last, rest := l[len(l)-1], l[:len(l)-1]
	if last.Kind == api.PushVar || last.Kind == api.PushVal {
		return plainTerm(api.Term{Var: last.Var, Val: last.Val}), rest
	}
	upper, rest := plainPart(rest)
	lower, rest := plainPart(rest)
	return "(" + lower + " " + map[int]string{api.Add: "+", api.Sub: "-", api.Mul: "*"}[last.Kind] + " " + upper + ")", rest
}

func plainExpr(l []api.Op) string {
	text, _ := plainPart(l)
	return text
}

func plainText(r api.Rule) string {
	var cs, as []string
	for _, c := range r.Conds {
		cs = append(cs, map[int]func() string{
			api.Has:   func() string { return plainAtom(c.Atom) },
			api.Not:   func() string { return "not " + plainAtom(c.Atom) },
			api.Guard: func() string { return plainGuard(c) },
		}[c.Kind]())
	}
	for _, a := range r.Acts {
		var args []string
		for _, x := range a.Args {
			args = append(args, plainExpr(x))
		}
		text := fmt.Sprintf("drop %d", a.Which)
		if a.Kind == api.Assert {
			text = "+" + a.Name + plainList("(", args, ")")
		}
		as = append(as, text)
	}
	return fmt.Sprintf("rule %s %d: %s -> %s.", r.Name, r.Prio, strings.Join(cs, ", "), strings.Join(as, ", "))
}

func plainGuard(c api.Cond) string {
	return "[" + plainExpr(c.Left) + [...]string{api.Eq: " = ", api.Ne: " != ", api.Lt: " < ", api.Le: " <= "}[c.How] + plainExpr(c.Right) + "]"
}

// Plain reading: each sign is one letter, and a stack of what is still to come is held against the letters, one by one.

var plainSigns = [...]*regexp.Regexp{
	api.TokName: regexp.MustCompile(`^[a-z][A-Za-z0-9_]{0,23}$`),
	api.TokVar:  regexp.MustCompile(`^[A-Z][A-Za-z0-9_]{0,23}$`),
	api.TokNum:  regexp.MustCompile(`^-?[0-9]+$`),
	api.TokStr:  regexp.MustCompile(`^"([ !#-\[\]-~]|\\["\\]){0,60}"$`),
	api.TokSign: regexp.MustCompile(`^([()\[\],.:/+*=<-]|!=|<=|->|=>)$`),
}

// letter tells n for a name, r, x, d for rule, not, drop, k for other words, v for a variable, # for a number from 0 on, m for one below, s for a string, a sign's own byte, ! ~ > g for != <= -> =>, and ? for what no text has.
func letter(x api.Token) byte {
	if x.Kind < api.TokName || x.Kind > api.TokSign || !plainSigns[x.Kind].MatchString(x.Text) {
		return '?'
	}
	switch x.Kind {
	case api.TokName:
		switch x.Text {
		case "rule":
			return 'r'
		case "not":
			return 'x'
		case "drop":
			return 'd'
		}
		if slices.Contains(words(), x.Text) {
			return 'k'
		}
		return 'n'
	case api.TokVar:
		return 'v'
	case api.TokNum:
		n := bigOf(x)
		if n.CmpAbs(new(big.Int).Lsh(big.NewInt(1), 62)) > 0 {
			return '?'
		}
		return "m##"[n.Sign()+1]
	case api.TokStr:
		return 's'
	default:
		if c, long := longMarks[x.Text]; long {
			return c
		}
		return x.Text[0]
	}
}

var longMarks = map[string]byte{"!=": '!', "<=": '~', "->": '>', "=>": 'g'}

func bigOf(x api.Token) *big.Int {
	n, _ := new(big.Int).SetString(x.Text, 10)
	return n
}

// grammar tells what stands on the stack in place of a part, by the next letter (0: any other one): A to I are parts, N T W O stand for one of several letters, q for a ) that closes a bracket of an expression.
var grammar = map[byte]map[byte]string{
	'C': {'x': "xnA", '[': "[EWE]", 0: "nA"},
	'D': {',': ",CD", 0: ""},
	'A': {'(': "(TB)", 0: ""},
	'B': {',': ",TB", 0: ""},
	'E': {'(': "(EOEq", 0: "T"},
	'F': {'+': "+nH", 0: "d#"},
	'G': {',': ",FG", 0: ""},
	'H': {'(': "(EI)", 0: ""},
	'I': {',': ",EI", 0: ""},
}

func grown(top, c byte) string {
	if s, ok := grammar[top][c]; ok {
		return s
	}
	return grammar[top][0]
}

func fits(top, c byte) bool {
	switch top {
	case 'N':
		return strings.IndexByte("#m", c) >= 0
	case 'T':
		return strings.IndexByte("nrxdkv#ms", c) >= 0
	case 'W':
		return strings.IndexByte("=!<~", c) >= 0
	case 'O':
		return strings.IndexByte("+-*", c) >= 0
	case 'q':
		return c == ')'
	}
	return top == c
}

// plainFit tells the place behind the rule that begins at a place: false, and the place that Read is to tell, if there is none, right or wrong.
func plainFit(l []api.Token, at int) (int, bool) {
	stack := "rnN:CD>FG."
	for i, x := range l[at:] {
		c := letter(x)
		for stack[0] >= 'A' && stack[0] <= 'I' {
			stack = grown(stack[0], c) + stack[1:]
		}
		if !fits(stack[0], c) {
			return at + i, false
		}
		if stack = stack[1:]; stack == "" {
			return at + i + 1, true
		}
		if strings.Count(stack, "q") > 15 {
			return at, false
		}
	}
	return len(l), false
}

// parts cuts signs at each comma that stands in no bracket.
func parts(l []api.Token) [][]api.Token {
	all := [][]api.Token{nil}
	open := 0
	for _, x := range l {
		switch letter(x) {
		case '(', '[':
			open++
		case ')', ']':
			open--
		}
		if open == 0 && letter(x) == ',' {
			all = append(all, nil)
			continue
		}
		all[len(all)-1] = append(all[len(all)-1], x)
	}
	return all
}

// cut tells the signs ahead of the first one of the letters, and those behind it.
func cut(l []api.Token, letters string) (ahead, behind []api.Token) {
	i := slices.IndexFunc(l, func(x api.Token) bool { return strings.IndexByte(letters, letter(x)) >= 0 })
	return l[:i], l[i+1:]
}

func plainTermOf(x api.Token) api.Term {
	switch x.Kind {
	case api.TokVar:
		return variable(x.Text)
	case api.TokName:
		return constant(sym(x.Text))
	case api.TokNum:
		return constant(num(int(bigOf(x).Int64())))
	default:
		return constant(str(strings.NewReplacer(`\"`, `"`, `\\`, `\`).Replace(x.Text[1 : len(x.Text)-1])))
	}
}

// plainOps tells the steps of the signs of one expression: each ) does what stands in its brackets.
func plainOps(l []api.Token) []api.Op {
	var ops []api.Op
	var waiting []int
	for _, x := range l {
		last := len(waiting) - 1
		switch letter(x) {
		case '(':
		case ')':
			ops, waiting = append(ops, do(waiting[last])), waiting[:last]
		case '+':
			waiting = append(waiting, api.Add)
		case '-':
			waiting = append(waiting, api.Sub)
		case '*':
			waiting = append(waiting, api.Mul)
		default:
			t := plainTermOf(x)
			op := pushVal(t.Val)
			if t.Var != "" {
				op = pushVar(t.Var)
			}
			ops = append(ops, op)
		}
	}
	return ops
}

func plainAtomOf(l []api.Token) api.Atom {
	a := atom(l[0].Text)
	for i := 2; i < len(l); i += 2 {
		a.Args = append(a.Args, plainTermOf(l[i]))
	}
	return a
}

func plainCondOf(l []api.Token) api.Cond {
	switch letter(l[0]) {
	case 'x':
		return not(plainAtomOf(l[1:]))
	case '[':
		left, right := cut(l[1:len(l)-1], "=!<~")
		how := strings.IndexByte("?=!<~", letter(l[1+len(left)]))
		return compare(plainOps(left), how, plainOps(right))
	default:
		return has(plainAtomOf(l))
	}
}

func plainActOf(l []api.Token) api.Act {
	if letter(l[0]) == 'd' {
		return retract(int(bigOf(l[1]).Int64()))
	}
	a := assert(l[1].Text)
	if len(l) > 2 {
		for _, x := range parts(l[3 : len(l)-1]) {
			a.Args = append(a.Args, plainOps(x))
		}
	}
	return a
}

// plainRule tells the rule, right or wrong, of signs that fit.
func plainRule(l []api.Token) api.Rule {
	r := api.Rule{Name: l[1].Text, Prio: int(bigOf(l[2]).Int64())}
	ahead, behind := cut(l[4:], ">")
	for _, c := range parts(ahead) {
		r.Conds = append(r.Conds, plainCondOf(c))
	}
	for _, a := range parts(behind[:len(behind)-1]) {
		r.Acts = append(r.Acts, plainActOf(a))
	}
	return r
}

// plainIsRight tells whether a rule is right whose signs fit, so that all in it is, but for what is too many, too great, or out of its place.
func plainIsRight(r api.Rule) bool {
	right := r.Prio >= -1000 && r.Prio <= 1000 && len(r.Conds) <= 6 && len(r.Acts) <= 6 && r.Conds[0].Kind == api.Has
	found := 0
	for _, c := range r.Conds {
		right = right && len(c.Atom.Args) <= 5 && len(c.Left) <= 15 && len(c.Right) <= 15
		if c.Kind == api.Has {
			found++
		}
	}
	for _, a := range r.Acts {
		right = right && len(a.Args) <= 5 && (a.Kind == api.Assert || a.Which < found)
		for _, x := range a.Args {
			right = right && len(x) <= 15
		}
	}
	return right
}

// plainRead tells what Read is to tell of a list, and of a place of it or its end.
func plainRead(l []api.Token, at int) (api.Rule, int, api.Errno) {
	next, ok := plainFit(l, at)
	if !ok {
		return api.Rule{}, next, api.ErrText
	}
	r := plainRule(l[at:next])
	if !plainIsRight(r) {
		return api.Rule{}, at, api.ErrText
	}
	return r, next, api.OK
}

func holdRead(t *testing.T, l []api.Token, at int) {
	t.Helper()
	r, next, e := Read(l, at)
	want, place, told := plainRead(l, at)
	if !same(r, want) || next != place || e != told || isZero(r) != (told != api.OK) {
		t.Errorf("Read(%v, %d) = %v, %d, %v; want %v, %d, %v", short(l), at, short(r), next, e, short(want), place, told)
	}
}

func holdParse(t *testing.T, text string) {
	t.Helper()
	r, e := Parse(text)
	l, _, told := lex.Tokens(text)
	var want api.Rule
	if told == api.OK {
		var next int
		want, next, told = plainRead(l, 0)
		if told == api.OK && next != len(l) {
			want, told = api.Rule{}, api.ErrText
		}
	}
	if !same(r, want) || e != told || isZero(r) != (told != api.OK) {
		t.Errorf("Parse(%q) = %v, %v; want %v, %v", short(text), short(r), e, short(want), told)
	}
}
