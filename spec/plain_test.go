package spec

import (
	"fmt"
	"math/big"
	"regexp"
	"slices"
	"strings"
	"testing"

	"constable/api"
	"constable/formula"
	"constable/lex"
	"constable/rules"
)

// What the tests hold the package against: programs made, held right or wrong, written and read by plainer means of the tests' own. What is a right rule or pattern, the layers below tell.

func num(n int) api.Value    { return api.Value{Kind: api.Int, N: n} }
func sym(s string) api.Value { return api.Value{Kind: api.Sym, S: s} }
func str(s string) api.Value { return api.Value{Kind: api.Str, S: s} }

func variable(name string) api.Term { return api.Term{Var: name} }
func constant(v api.Value) api.Term { return api.Term{Val: v} }

func atom(name string, terms ...api.Term) api.Atom { return api.Atom{Name: name, Args: terms} }

func pushVar(name string) api.Op { return api.Op{Kind: api.PushVar, Var: name} }
func pushVal(v api.Value) api.Op { return api.Op{Kind: api.PushVal, Val: v} }
func steps(l ...api.Op) []api.Op { return l }

func decl(name string, arity, kind int) api.Decl {
	return api.Decl{Name: name, Arity: arity, Kind: kind}
}

// rule, ruleText and so on: what a call answers shares nothing with what another one does.
func rule() api.Rule {
	return api.Rule{
		Name: "a", Prio: -5,
		Conds: []api.Cond{
			{Kind: api.Has, Atom: atom("p", variable("X"))}, {Kind: api.Not, Atom: atom("q", variable("X"), constant(num(1)))},
			{Kind: api.Guard, How: api.Lt, Left: steps(pushVar("X"), pushVal(num(2)), api.Op{Kind: api.Mul}), Right: steps(pushVal(num(3)))},
		},
		Acts: []api.Act{{Kind: api.Assert, Name: "r", Args: [][]api.Op{steps(pushVar("X"), pushVal(num(1)), api.Op{Kind: api.Add}), steps(pushVal(sym("b")))}}, {Kind: api.Retract}},
	}
}

const ruleText = "rule a -5: p(X), not q(X, 1), [(X * 2) < 3] -> +r((X + 1), b), drop 0."

func smallRule() api.Rule {
	return api.Rule{Name: "s", Conds: []api.Cond{{Kind: api.Has, Atom: atom("p")}}, Acts: []api.Act{{Kind: api.Assert, Name: "q"}}}
}

const smallRuleText = "rule s 0: p -> +q."

func pattern() api.Pattern {
	return api.Pattern{Name: "b", Trigger: atom("t", variable("X")), Nodes: []api.Node{
		{Kind: api.Is, Atom: atom("p", variable("X"))}, {Kind: api.Neg, A: 0}, {Kind: api.Is, Atom: atom("q", constant(str(`"`)))}, {Kind: api.Since, A: 1, B: 2},
	}}
}

const patternText = `pattern b: t(X) => (not p(X) since q("\"")).`

func smallPattern() api.Pattern {
	return api.Pattern{Name: "s", Trigger: atom("p"), Nodes: []api.Node{{Kind: api.Is, Atom: atom("q")}}}
}

const smallPatternText = "pattern s: p => q."

// base is a right program with each kind of declaration.
func base() api.Program {
	return api.Program{
		Decls: []api.Decl{decl("p", 1, api.Event), decl("q", 2, api.Persist), decl("r", 0, api.Now), decl("event", 5, api.Next), decl("t", 3, api.Forbid)},
		Rules: []api.Rule{rule(), smallRule()},
		Pats:  []api.Pattern{pattern(), smallPattern()},
	}
}

const baseText = "fact p/1 event.\nfact q/2 persist.\nfact r/0 now.\nfact event/5 next.\nfact t/3 forbid.\n" +
	ruleText + "\n" + smallRuleText + "\n" + patternText + "\n" + smallPatternText + "\n"

func with[T any](l []T, at int, x T) []T   { return slices.Concat(l[:at], []T{x}, l[at+1:]) }
func wedged[T any](l []T, at int, x T) []T { return slices.Concat(l[:at], []T{x}, l[at:]) }
func without[T any](l []T, at int) []T     { return slices.Concat(l[:at], l[at+1:]) }

func short(v any) string {
	s := fmt.Sprintf("%v", v)
	if len(s) > 300 {
		return s[:300] + ".."
	}
	return s
}

func signsOf(t *testing.T, text string) []api.Token {
	t.Helper()
	l, at, e := lex.Tokens(text)
	if e != api.OK {
		t.Fatalf("%q has no signs: %v, %v", short(text), at, e)
	}
	return l
}

// textsOf tells the texts of the signs of a text.
func textsOf(t *testing.T, text string) []string {
	t.Helper()
	var l []string
	for _, x := range signsOf(t, text) {
		l = append(l, x.Text)
	}
	return l
}

// same takes nil and empty lists as one (R2).
func same(a, b api.Program) bool {
	return slices.Equal(a.Decls, b.Decls) && slices.EqualFunc(a.Rules, b.Rules, sameRule) && slices.EqualFunc(a.Pats, b.Pats, samePattern)
}

func sameAtom(a, b api.Atom) bool { return a.Name == b.Name && slices.Equal(a.Args, b.Args) }

func sameRule(a, b api.Rule) bool {
	sameCond := func(a, b api.Cond) bool {
		return a.Kind == b.Kind && sameAtom(a.Atom, b.Atom) && a.How == b.How && slices.Equal(a.Left, b.Left) && slices.Equal(a.Right, b.Right)
	}
	sameAct := func(a, b api.Act) bool {
		return a.Kind == b.Kind && a.Name == b.Name && a.Which == b.Which && slices.EqualFunc(a.Args, b.Args, slices.Equal[[]api.Op])
	}
	return a.Name == b.Name && a.Prio == b.Prio && slices.EqualFunc(a.Conds, b.Conds, sameCond) && slices.EqualFunc(a.Acts, b.Acts, sameAct)
}

func samePattern(a, b api.Pattern) bool {
	return a.Name == b.Name && sameAtom(a.Trigger, b.Trigger) && slices.EqualFunc(a.Nodes, b.Nodes, func(a, b api.Node) bool {
		return a.Kind == b.Kind && sameAtom(a.Atom, b.Atom) && a.A == b.A && a.B == b.B
	})
}

func isZero(p api.Program) bool { return same(p, api.Program{}) }

// Plain holding and writing.

var plainKinds = map[string]int{"event": api.Event, "persist": api.Persist, "now": api.Now, "next": api.Next, "forbid": api.Forbid}

var plainName = regexp.MustCompile(`\A[a-z][A-Za-z0-9_]{0,23}\z`)

func kept() []string {
	return strings.Fields("fact rule pattern not and or before once always since drop")
}

func plainIsName(s string) bool { return plainName.MatchString(s) && !slices.Contains(kept(), s) }

func plainIsRight(p api.Program) bool {
	right := len(p.Decls) <= 60 && len(p.Rules) <= 60 && len(p.Pats) <= 10
	for _, d := range p.Decls {
		right = right && plainIsName(d.Name) && d.Arity >= 0 && d.Arity <= 5 && d.Kind >= 1 && d.Kind <= 5
	}
	for _, r := range p.Rules {
		right = right && rules.Check(r) == api.OK
	}
	for _, x := range p.Pats {
		_, e := formula.Pattern(x)
		right = right && e == api.OK
	}
	return right
}

// plainText tells the text of a right program: false, if one of its rules is too long by itself.
func plainText(p api.Program) (string, bool) {
	text, right := "", true
	for _, d := range p.Decls {
		for word, kind := range plainKinds {
			if d.Kind == kind {
				text += fmt.Sprintf("fact %s/%d %s.\n", d.Name, d.Arity, word)
			}
		}
	}
	for _, r := range p.Rules {
		s, e := rules.Text(r)
		text, right = text+s+"\n", right && e == api.OK
	}
	for _, x := range p.Pats {
		s, e := formula.Pattern(x)
		text, right = text+s+"\n", right && e == api.OK
	}
	return text, right
}

// Plain reading.

// plainDecl tells a declaration, and how many signs it has: false, and how many fit, if the list begins with none.
func plainDecl(l []api.Token) (d api.Decl, count int, ok bool) {
	isText := func(s string) func(api.Token) bool {
		return func(x api.Token) bool { return x.Text == s }
	}
	isArity := func(x api.Token) bool {
		n, isNum := new(big.Int).SetString(x.Text, 10)
		if isNum {
			d.Arity = int(n.Int64())
		}
		return x.Kind == api.TokNum && n.Sign() >= 0 && n.Cmp(big.NewInt(5)) <= 0
	}
	isName := func(x api.Token) bool {
		d.Name = x.Text
		return x.Kind == api.TokName && plainIsName(x.Text)
	}
	isKind := func(x api.Token) bool {
		d.Kind = plainKinds[x.Text]
		return d.Kind > 0
	}
	for i, fits := range []func(api.Token) bool{isText("fact"), isName, isText("/"), isArity, isKind, isText(".")} {
		if i == len(l) || !fits(l[i]) {
			return api.Decl{}, i, false
		}
	}
	return d, 6, true
}

func plainPlace(l []api.Token, at int) api.Pos {
	if at < len(l) {
		return l[at].At
	}
	last := l[len(l)-1].At
	return api.Pos{Line: last.Line, Col: last.Col + 1}
}

// plainParse tells what Parse is to tell of any text.
func plainParse(text string) (api.Program, api.Pos, api.Errno) {
	l, at, e := lex.Tokens(text)
	if e != api.OK {
		return api.Program{}, at, e
	}
	var p api.Program
	var over []int
	for next := 0; next < len(l); {
		begin, e := next, api.ErrText
		var behind int
		switch l[begin].Text {
		case "fact":
			d, count, ok := plainDecl(l[begin:])
			behind = begin + count
			if ok {
				e = api.OK
			}
			p.Decls = append(p.Decls, d)
		case "rule":
			var r api.Rule
			r, behind, e = rules.Read(l, begin)
			p.Rules = append(p.Rules, r)
		case "pattern":
			var x api.Pattern
			x, behind, e = formula.ReadPattern(l, begin)
			p.Pats = append(p.Pats, x)
		default:
			behind = begin
		}
		if e != api.OK {
			return api.Program{}, plainPlace(l, behind), api.ErrText
		}
		if len(p.Decls) > 60 || len(p.Rules) > 60 || len(p.Pats) > 10 {
			over = append(over, begin)
		}
		next = behind
	}
	if len(over) > 0 {
		return api.Program{}, l[over[0]].At, api.ErrLen
	}
	return p, api.Pos{}, api.OK
}

func holdParse(t *testing.T, text string) {
	t.Helper()
	p, at, e := Parse(text)
	want, place, told := plainParse(text)
	if !same(p, want) || at != place || e != told {
		t.Errorf("Parse(%q) = %v, %v, %v; want %v, %v, %v", short(text), short(p), at, e, short(want), place, told)
	}
}

// reads and refuses hold what stands in the tests' own words.
func reads(t *testing.T, text string, want api.Program) {
	t.Helper()
	if p, at, e := Parse(text); !same(p, want) || at != (api.Pos{}) || e != api.OK {
		t.Errorf("Parse(%q) = %v, %v, %v; want %v", short(text), short(p), at, e, short(want))
	}
	holdParse(t, text)
}

func refuses(t *testing.T, text string, line, col int, told api.Errno) {
	t.Helper()
	if p, at, e := Parse(text); !isZero(p) || at != (api.Pos{Line: line, Col: col}) || e != told {
		t.Errorf("Parse(%q) = %v, %v, %v; want none, %d:%d, %v", short(text), short(p), at, e, line, col, told)
	}
	holdParse(t, text)
}

// hold holds what is checked and written.
func hold(t *testing.T, p api.Program) {
	t.Helper()
	text, told := "", api.ErrArg
	if plainIsRight(p) {
		var ok bool
		if text, ok = plainText(p); ok && len(text) <= 20000 {
			told = api.OK
		} else {
			text, told = "", api.ErrLen
		}
	}
	if e := Check(p); (e == api.OK) != (told != api.ErrArg) || e != api.OK && e != api.ErrArg {
		t.Errorf("Check(%v) = %v; right: %v", short(p), e, told != api.ErrArg)
	}
	if s, e := Text(p); s != text || e != told {
		t.Errorf("Text(%v) = %q, %v; want %q, %v", short(p), short(s), e, short(text), told)
	}
}

// holdAs holds the same, and what it is that is held.
func holdAs(t *testing.T, p api.Program, told api.Errno) {
	t.Helper()
	if _, e := Text(p); e != told {
		t.Errorf("Text(%v): %v; want %v", short(p), e, told)
	}
	hold(t, p)
}
