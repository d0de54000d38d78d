package spec

import (
	"fmt"
	"math/rand"
	"slices"
	"strings"
	"testing"
	"unsafe"

	"constable/api"
)

func rightNames() []string {
	return []string{"p", "a", "z", "event", "persist", "now", "next", "forbid", "events", "facts", "nots", "no", "p1_Q", "aND", strings.Repeat("q", api.MaxName)}
}

func wrongNames() []string {
	return append(kept(), "", "P", "X", "_p", "1", "p ", " p", "p(", "p/", "p\x00", "é", "pé", "\xff", `"p"`, strings.Repeat("q", api.MaxName+1), strings.Repeat("q", 100000))
}

func wrongNumbers() []int {
	return []int{-1, -2, 6, 7, 1 << 32, 1<<32 + 1, api.Least, api.Most, -1 << 63, 1<<63 - 1}
}

// rightDecls tells one of each name with one of each Arity and Kind, by turns and all.
func rightDecls() []api.Decl {
	var l []api.Decl
	for i, name := range rightNames() {
		l = append(l, decl(name, i%6, 1+i%5))
	}
	for arity := range api.MaxArgs + 1 {
		for kind := api.Event; kind <= api.Forbid; kind++ {
			l = append(l, decl("p", arity, kind))
		}
	}
	return l
}

func wrongDecls() []api.Decl {
	l := []api.Decl{{}, {Name: "p"}, {Kind: 1}}
	for _, name := range wrongNames() {
		l = append(l, decl(name, 0, api.Event))
	}
	for _, n := range wrongNumbers() {
		l = append(l, decl("p", n, api.Event), decl("p", 0, n))
	}
	return append(l, decl("p", 0, 0), decl("p", 6, 6), decl("p", -1, 6), decl("P", 6, 0))
}

// wrongRules and wrongPatterns tell some that are wrong each in another part.
func wrongRules() []api.Rule {
	l := []api.Rule{{}, {Name: "a"}}
	for _, change := range []func(*api.Rule){
		func(r *api.Rule) { r.Name = "not" },
		func(r *api.Rule) { r.Prio = 1001 },
		func(r *api.Rule) { r.Conds = nil },
		func(r *api.Rule) { r.Acts = nil },
		func(r *api.Rule) { r.Conds = r.Conds[1:] },
		func(r *api.Rule) { r.Conds = slices.Repeat(r.Conds, 3) },
		func(r *api.Rule) { r.Acts = slices.Repeat(r.Acts, 4) },
		func(r *api.Rule) { r.Conds[2].Left = nil },
		func(r *api.Rule) { r.Acts[1].Which = 1 },
		func(r *api.Rule) { r.Acts[0].Args[1][0].Val.S = "B" },
	} {
		r := rule()
		change(&r)
		l = append(l, r)
	}
	return l
}

func wrongPatterns() []api.Pattern {
	l := []api.Pattern{{}, {Name: "a"}}
	for _, change := range []func(*api.Pattern){
		func(x *api.Pattern) { x.Name = "pattern" },
		func(x *api.Pattern) { x.Trigger = api.Atom{} },
		func(x *api.Pattern) { x.Trigger.Args[0].Var = "x" },
		func(x *api.Pattern) { x.Nodes = nil },
		func(x *api.Pattern) { x.Nodes = x.Nodes[:3] },
		func(x *api.Pattern) { x.Nodes[3].A = 0 },
		func(x *api.Pattern) { x.Nodes[3].Kind = 9 },
		func(x *api.Pattern) { x.Nodes = slices.Repeat(x.Nodes, 11) },
	} {
		x := pattern()
		change(&x)
		l = append(l, x)
	}
	return l
}

// sized tells a right program of so many of each kind.
func sized(decls, rules, pats int) api.Program {
	var p api.Program
	for i := range decls {
		p.Decls = append(p.Decls, rightDecls()[i%len(rightDecls())])
	}
	for i := range rules {
		p.Rules = append(p.Rules, []api.Rule{rule(), smallRule()}[i%2])
	}
	for i := range pats {
		p.Pats = append(p.Pats, []api.Pattern{smallPattern(), pattern()}[i%2])
	}
	return p
}

// lengthy tells a right program whose text has so many bytes: most of them in strings, which are all as long as can be up to the one at which it comes out even.
func lengthy(t *testing.T, count int) api.Program {
	t.Helper()
	p := base()
	for range 12 {
		r := smallRule()
		r.Conds = nil
		for range api.MaxConds {
			r.Conds = append(r.Conds, api.Cond{Kind: api.Has, Atom: atom("p", slices.Repeat([]api.Term{constant(str(""))}, api.MaxArgs)...)})
		}
		p.Rules = append(p.Rules, r)
	}
	text, _ := plainText(p)
	left := count - len(text)
	for _, r := range p.Rules[2:] {
		for _, c := range r.Conds {
			for i := range c.Atom.Args {
				escaped := min(left, 2*api.MaxStr)
				c.Atom.Args[i] = constant(str(strings.Repeat(`\`, escaped/2) + strings.Repeat("x", escaped%2)))
				left -= escaped
			}
		}
	}
	if text, _ := plainText(p); len(text) != count {
		t.Fatalf("a program of %d bytes, not of %d", len(text), count)
	}
	return p
}

// tooLongRule tells a right rule that has no text, as it would be too long.
func tooLongRule() api.Rule {
	r := smallRule()
	long := slices.Concat(slices.Repeat(steps(pushVal(str(strings.Repeat(`"`, api.MaxStr)))), 8), slices.Repeat(steps(api.Op{Kind: api.Add}), 7))
	r.Acts = slices.Repeat([]api.Act{{Kind: api.Assert, Name: "r", Args: slices.Repeat([][]api.Op{long}, api.MaxArgs)}}, api.MaxActs)
	return r
}

// longPattern tells a right pattern of 10000 bytes and more.
func longPattern() api.Pattern {
	long := atom(strings.Repeat("z", api.MaxName), slices.Repeat([]api.Term{constant(str(strings.Repeat(`"`, api.MaxStr)))}, api.MaxArgs)...)
	x := api.Pattern{Name: "a", Trigger: long}
	// Formulas of 1, 2, 4, 8 and 16 atoms are put together pair by pair.
	for at := range 16 {
		x.Nodes = append(x.Nodes, api.Node{Kind: api.Is, Atom: long})
		for size := 1; (at+1)%(2*size) == 0; size *= 2 {
			behind := len(x.Nodes) - 1
			x.Nodes = append(x.Nodes, api.Node{Kind: api.And, A: behind - (2*size - 1), B: behind})
		}
	}
	return x
}

func TestP13_1_ExampleOfTheChapter(t *testing.T) {
	want := api.Program{Decls: []api.Decl{decl("p", 1, api.Event)}}
	reads(t, "fact p/1 event.", want)
	if text, e := Text(want); text != "fact p/1 event.\n" || e != api.OK || Check(want) != api.OK {
		t.Errorf("%q, %v, %v", text, e, Check(want))
	}
}

// Texts and programs written out, so that the plain means of the tests are held too.
func TestP13_1_TextsWrittenOut(t *testing.T) {
	for text, p := range map[string]api.Program{
		baseText:                            base(),
		"":                                  {},
		"fact q/0 persist.\n":               {Decls: []api.Decl{decl("q", 0, api.Persist)}},
		"fact r/2 now.\nfact r/2 now.\n":    {Decls: []api.Decl{decl("r", 2, api.Now), decl("r", 2, api.Now)}},
		"fact next/3 next.\n":               {Decls: []api.Decl{decl("next", 3, api.Next)}},
		"fact s/4 forbid.\nfact t/5 now.\n": {Decls: []api.Decl{decl("s", 4, api.Forbid), decl("t", 5, api.Now)}},
		ruleText + "\n":                     {Rules: []api.Rule{rule()}},
		smallRuleText + "\n" + ruleText + "\n" + smallRuleText + "\n": {Rules: []api.Rule{smallRule(), rule(), smallRule()}},
		patternText + "\n":                           {Pats: []api.Pattern{pattern()}},
		smallPatternText + "\n" + patternText + "\n": {Pats: []api.Pattern{smallPattern(), pattern()}},
		ruleText + "\n" + patternText + "\n":         {Rules: []api.Rule{rule()}, Pats: []api.Pattern{pattern()}},
	} {
		if plain, ok := plainText(p); plain != text || !ok || !plainIsRight(p) {
			t.Errorf("%q is plainly %q, right: %v", text, plain, plainIsRight(p))
		}
		if s, e := Text(p); s != text || e != api.OK || Check(p) != api.OK {
			t.Errorf("%q, %v, %v; want %q", s, e, Check(p), text)
		}
		reads(t, text, p)
	}
}

// rightPrograms tells one of each right declaration, of each count of each kind, and of more.
func rightPrograms() []api.Program {
	l := []api.Program{{}, base(), {Decls: rightDecls()}}
	for _, d := range rightDecls() {
		p := base()
		p.Decls[1] = d
		l = append(l, p, api.Program{Decls: []api.Decl{d}}, api.Program{Decls: slices.Repeat([]api.Decl{d}, api.MaxDecls)})
	}
	for count := range api.MaxDecls + 1 {
		l = append(l, sized(count, 0, 0), sized(0, count, 0), sized(60-count, count, count%11))
	}
	for count := range api.MaxPats + 1 {
		l = append(l, sized(0, 0, count), sized(60, 60, count))
	}
	return l
}

func TestP13_1_RightPrograms(t *testing.T) {
	for _, p := range rightPrograms() {
		holdAs(t, p, api.OK)
	}
}

// What is wrong anywhere makes the whole wrong.
func TestP13_1_WrongParts(t *testing.T) {
	for _, d := range wrongDecls() {
		for count := range 6 {
			p := base()
			p.Decls = wedged(p.Decls, count, d)
			holdAs(t, p, api.ErrArg)
		}
		holdAs(t, api.Program{Decls: []api.Decl{d}}, api.ErrArg)
		holdAs(t, api.Program{Decls: with(sized(60, 0, 0).Decls, 59, d)}, api.ErrArg)
	}
	for _, r := range wrongRules() {
		for count := range 3 {
			p := base()
			p.Rules = wedged(p.Rules, count, r)
			holdAs(t, p, api.ErrArg)
		}
		holdAs(t, api.Program{Rules: []api.Rule{r}}, api.ErrArg)
		holdAs(t, api.Program{Rules: with(sized(0, 60, 0).Rules, 59, r)}, api.ErrArg)
	}
	for _, x := range wrongPatterns() {
		for count := range 3 {
			p := base()
			p.Pats = wedged(p.Pats, count, x)
			holdAs(t, p, api.ErrArg)
		}
		holdAs(t, api.Program{Pats: []api.Pattern{x}}, api.ErrArg)
		holdAs(t, api.Program{Pats: with(sized(0, 0, 10).Pats, 9, x)}, api.ErrArg)
	}
}

func TestP13_1_TooManyParts(t *testing.T) {
	for _, p := range []api.Program{
		sized(61, 0, 0), sized(62, 0, 0), sized(0, 61, 0), sized(0, 62, 0), sized(0, 0, 11), sized(0, 0, 12), sized(61, 60, 10), sized(60, 61, 10), sized(60, 60, 11), sized(0, 0, 60), sized(61, 61, 11),
		{Decls: slices.Repeat(base().Decls, 100000)}, {Rules: slices.Repeat(base().Rules, 100000)}, {Pats: slices.Repeat(base().Pats, 100000)}, {Decls: make([]api.Decl, 61)}, {Rules: make([]api.Rule, 61)}, {Pats: make([]api.Pattern, 11)},
	} {
		holdAs(t, p, api.ErrArg)
	}
	holdAs(t, sized(60, 60, 10), api.OK)
}

// nil and empty are the same (R2).
func TestP13_1_NilIsEmpty(t *testing.T) {
	for _, spare := range []int{0, 3} {
		p := api.Program{Decls: make([]api.Decl, 0, spare), Rules: make([]api.Rule, 0, spare), Pats: make([]api.Pattern, 0, spare)}
		if text, e := Text(p); text != "" || e != api.OK || Check(p) != api.OK {
			t.Errorf("%q, %v, %v", text, e, Check(p))
		}
		p.Rules = append(p.Rules, smallRule())
		p.Rules[0].Acts[0].Args = make([][]api.Op, 0, spare)
		p.Rules[0].Conds[0].Left = make([]api.Op, 0, spare)
		if text, e := Text(p); text != smallRuleText+"\n" || e != api.OK {
			t.Errorf("%q, %v", text, e)
		}
	}
}

func TestP13_1_TextsThatAreTooLong(t *testing.T) {
	for _, count := range []int{5000, 19998, 19999, api.MaxText} {
		p := lengthy(t, count)
		holdAs(t, p, api.OK)
		text, _ := plainText(p)
		reads(t, text, p)
		// Its last 0A is one of the bytes that count.
		if count == api.MaxText {
			refuses(t, text+"\n", 0, 0, api.ErrLen)
			refuses(t, text[1:]+"!\n", 0, 0, api.ErrLen)
		}
	}
	for _, count := range []int{api.MaxText + 1, api.MaxText + 2, 25000, 40000} {
		p := lengthy(t, count)
		holdAs(t, p, api.ErrLen)
		// That it is wrong is told first.
		for _, change := range []func(*api.Program){
			func(p *api.Program) { p.Decls[4].Arity = 6 }, func(p *api.Program) { p.Rules[13].Prio = 1001 }, func(p *api.Program) { p.Pats[1].Name = "P" }, func(p *api.Program) { p.Decls = slices.Repeat(p.Decls, 13) },
		} {
			p := lengthy(t, count)
			change(&p)
			holdAs(t, p, api.ErrArg)
		}
	}
	// A rule too long by itself, and patterns that are so together.
	for _, at := range []int{0, 1, 2} {
		p := base()
		p.Rules = wedged(p.Rules, at, tooLongRule())
		holdAs(t, p, api.ErrLen)
		p.Pats[1].Name = ""
		holdAs(t, p, api.ErrArg)
	}
	holdAs(t, api.Program{Rules: slices.Repeat([]api.Rule{tooLongRule()}, api.MaxRules)}, api.ErrLen)
	holdAs(t, api.Program{Pats: []api.Pattern{longPattern()}}, api.OK)
	holdAs(t, api.Program{Pats: slices.Repeat([]api.Pattern{longPattern()}, 2)}, api.ErrLen)
	holdAs(t, api.Program{Pats: slices.Repeat([]api.Pattern{longPattern()}, 10)}, api.ErrLen)
}

// Texts that have no signs are programs of nothing.
func TestP13_1_TextsWithoutSigns(t *testing.T) {
	for _, text := range []string{"", " ", "\n", "\t\r\n ", "%", "% fact p/1 event.", "%\n%\n", " % \xff\x00\n", strings.Repeat(" ", api.MaxText), "%" + strings.Repeat("!", api.MaxText-1)} {
		reads(t, text, api.Program{})
	}
}

// What has no signs, or too many bytes, is told ahead of all else.
func TestP13_1_ErrorsOfSigns(t *testing.T) {
	refuses(t, strings.Repeat(" ", api.MaxText+1), 0, 0, api.ErrLen)
	refuses(t, strings.Repeat("!", api.MaxText+1), 0, 0, api.ErrLen)
	refuses(t, "x"+strings.Repeat(" ", api.MaxText), 0, 0, api.ErrLen)
	refuses(t, strings.Repeat("fact p/1 event.", 2000), 0, 0, api.ErrLen)
	refuses(t, "!", 1, 1, api.ErrSign)
	refuses(t, "foo !", 1, 5, api.ErrSign)
	refuses(t, "fact p/6 event.\n\t?", 2, 2, api.ErrSign)
	refuses(t, strings.Repeat("fact p/1 event.\n", 61)+"\"", 62, 1, api.ErrSign)
	refuses(t, "fact p/4611686018427387905 event.", 1, 8, api.ErrSign)
	refuses(t, "fact p/1 "+strings.Repeat("e", 25)+".", 1, 10, api.ErrSign)
	refuses(t, "fact p/1 event.\xff", 1, 16, api.ErrSign)
}

// Declarations, rules and patterns in any order are kept in theirs, whatever stands between signs.
func TestP13_1_AnyOrder(t *testing.T) {
	texts := []string{"fact p/1 event.", "fact now/0 now.", ruleText, smallRuleText, patternText, smallPatternText}
	for order := range 720 {
		var text string
		var want api.Program
		left := []int{0, 1, 2, 3, 4, 5}
		for count := 6; count > 0; count-- {
			at := order % count
			order /= count
			switch pick := left[at]; pick {
			case 0, 1:
				want.Decls = append(want.Decls, []api.Decl{decl("p", 1, api.Event), decl("now", 0, api.Now)}[pick])
			case 2, 3:
				want.Rules = append(want.Rules, []api.Rule{rule(), smallRule()}[pick-2])
			default:
				want.Pats = append(want.Pats, []api.Pattern{pattern(), smallPattern()}[pick-4])
			}
			text += texts[left[at]] + []string{"", " ", "\n", "% so.\n", "\t"}[(order+count)%5]
			left = without(left, at)
		}
		reads(t, text, want)
	}
	parts := textsOf(t, baseText)
	for _, between := range []string{" ", "\n", "\t\t", "\r\n", "% fact\n", "\n%\n", " %!\xff\"\n"} {
		text := between + strings.Join(parts, between) + between
		reads(t, text, base())
		reads(t, text+"% the end", base())
	}
}

// Each sign of a declaration that does not fit: its place.
func TestP13_1_SignsOfDeclarations(t *testing.T) {
	for text, col := range map[string]int{
		"fact": 2, "fact p": 7, "fact p/": 8, "fact p/1": 9, "fact p/1 event": 11, "fact p /": 9,
		"fact fact/1 event.": 6, "fact P/1 event.": 6, "fact 1/1 event.": 6, "fact \"p\"/1 event.": 6, "fact /1 event.": 6, "fact p(X) event.": 7, "fact p 1 event.": 8, "fact p, /1 event.": 7, "fact p.": 7, "fact p:1 event.": 7, "fact p//1 event.": 8, "fact p*1 event.": 7,
		"fact p/6 event.": 8, "fact p/-1 event.": 8, "fact p/ -1 event.": 9, "fact p/- 1 event.": 8, "fact p/X event.": 8, "fact p/one event.": 8, "fact p/\"1\" event.": 8, "fact p/(1) event.": 8, "fact p/+1 event.": 8, "fact p/event.": 8, "fact p/.": 8,
		"fact p/1.": 9, "fact p/1 1.": 10, "fact p/1 events.": 10, "fact p/1 Event.": 10, "fact p/1 \"event\".": 10, "fact p/1 fact.": 10, "fact p/1 p.": 10, "fact p/1 / event.": 10, "fact p/1 drop.": 10, "fact p/1, event.": 9,
		"fact p/1 event,": 15, "fact p/1 event fact": 16, "fact p/1 event event.": 16, "fact p/1 event:.": 15, "fact p/1 event -": 16,
		"fact p/1 event..": 16, "fact p/1 event.p": 16, "fact p/1 event. fact": 18, "fact p/1 event. fact q/7": 24, "fact p/1 event. event.": 17, "facts p/1 event.": 1, "p/1 event.": 1, "Fact p/1 event.": 1, "\"fact\" p/1 event.": 1, "not": 1, ".": 1, "1": 1, "drop 0.": 1,
	} {
		refuses(t, text, 1, col, api.ErrText)
		refuses(t, "\n%\n"+text, 3, col, api.ErrText)
		refuses(t, "%"+text+"\n\n"+text+"\n % so\n", 3, col, api.ErrText)
		refuses(t, baseText+text, 10, col, api.ErrText)
	}
}

// What rules and patterns tell of the places where they do not fit.
func TestP13_1_SignsOfRulesAndPatterns(t *testing.T) {
	six := "(1, 2, 3, 4, 5, 6)"
	for text, col := range map[string]int{
		"rule": 2, "rule a": 7, "rule not 0: p -> +q.": 6, "rule a X: p -> +q.": 8, "rule a 0, p": 9, "rule a 0: p -> r.": 16, "rule a 0: p -> +q": 18, "rule a 0: p -> +q(\"abcdef\"": 20, "rule a 0: p -> drop -1.": 21,
		"rule a 1001: p -> +q.": 1, "rule a 1001: p -> +q": 21, "rule a 0: not p -> +q.": 1, "rule a 0: p -> drop 1.": 1, "rule a 0: p" + six + " -> +q.": 1, "rule a 0: p" + six + " -> q.": 34, "rule a 0: p, [" + strings.Repeat("(", 16): 1, "rule a 0: p, [" + strings.Repeat("(", 15): 30,
		"rule a 0: p -> +q..": 19, "rule a 0: p -> +q. p": 20, "rule a 0: p -> +q. rule a 0: not p -> +q.": 20,
		"pattern": 2, "pattern a": 10, "pattern not: p => q.": 9, "pattern a 0: p => q.": 11, "pattern a: not p => q.": 12, "pattern a: p -> q.": 14, "pattern a: p =>": 15, "pattern a: p => not not": 22, "pattern a: p => (q and r.": 25, "pattern a: p => q": 18, "pattern a: p => q r.": 19,
		"pattern a: p" + six + " => q.": 1, "pattern a: p" + six + " => X.": 35, "pattern a: p => " + strings.Repeat("not ", 12) + "q.": 1, "pattern a: p => " + strings.Repeat("not ", 12) + "q": 66, "pattern a: p => q..": 19, "pattern a: p => q. pattern a: p => " + strings.Repeat("not ", 12) + "q.": 20,
	} {
		refuses(t, text, 1, col, api.ErrText)
		refuses(t, "\n%\n"+text, 3, col, api.ErrText)
		refuses(t, "%"+text+"\n\n"+text+"\n % so\n", 3, col, api.ErrText)
		refuses(t, baseText+text, 10, col, api.ErrText)
	}
	refuses(t, "\n\n\n  rule a\n 1001:\n p -> +q.\n", 4, 3, api.ErrText)
	refuses(t, "pattern a: p =>\n\t  once % p.\n\n", 2, 5, api.ErrText)
}

// The place behind the last sign is by that sign's first byte.
func TestP13_1_BehindTheLastSign(t *testing.T) {
	for _, ahead := range []string{"", "\n", " \n  \t", "fact p/0 now.\n\n "} {
		line, col := 1+strings.Count(ahead, "\n"), len(ahead)-strings.LastIndex(ahead, "\n")-1
		for _, behind := range []string{"", " ", "\n\n\n", "   % so", "%\n%\n \t"} {
			for text, last := range map[string]int{"fact": 1, "fact abcdefgh": 6, "fact p/0000": 8, "fact p/5 persist": 10, "rule a 0: p(\"abc\"": 13, "rule a 0: p ->": 13, "pattern a: p =>": 14, "pattern a: p(Xyz": 14} {
				refuses(t, ahead+text+behind, line, col+last+1, api.ErrText)
			}
		}
	}
}

func TestP13_1_NumbersOfArgs(t *testing.T) {
	zeros := strings.Repeat("0", 5000)
	for text, arity := range map[string]int{"0": 0, "-0": 0, "00": 0, "-000": 0, "1": 1, "2": 2, "3": 3, "4": 4, "5": 5, "05": 5, zeros + "5": 5, zeros: 0} {
		reads(t, "fact p/"+text+" event.", api.Program{Decls: []api.Decl{decl("p", arity, api.Event)}})
	}
	for _, text := range []string{"6", "06", "7", "10", "-1", "-01", "-5", "100", "4294967296", "4294967297", "4611686018427387904", "-4611686018427387904", zeros + "6"} {
		refuses(t, "fact p/"+text+" event.", 1, 8, api.ErrText)
		refuses(t, "fact p/"+text, 1, 8, api.ErrText)
	}
}

// Words are no names, but the kinds are.
func TestP13_1_WordsAreNoNames(t *testing.T) {
	for _, word := range kept() {
		refuses(t, "fact "+word+"/1 event.", 1, 6, api.ErrText)
		refuses(t, "fact p/1 "+word+".", 1, 10, api.ErrText)
		reads(t, "fact "+word+"s/1 event.", api.Program{Decls: []api.Decl{decl(word+"s", 1, api.Event)}})
		if !slices.Contains([]string{"fact", "rule", "pattern"}, word) {
			refuses(t, word+" p/1 event.", 1, 1, api.ErrText)
		}
	}
	for word, kind := range plainKinds {
		refuses(t, word+" p/1 event.", 1, 1, api.ErrText)
		for other, way := range plainKinds {
			reads(t, "fact "+word+"/"+fmt.Sprint(kind)+" "+other+".", api.Program{Decls: []api.Decl{decl(word, kind, way)}})
		}
	}
	for _, name := range rightNames() {
		reads(t, "fact "+name+"/1 event.", api.Program{Decls: []api.Decl{decl(name, 1, api.Event)}})
	}
}

// many tells a text of lines that are numbered.
func many(line string, count int) string {
	text := ""
	for i := range count {
		text += fmt.Sprintf(line, i) + "\n"
	}
	return text
}

func TestP13_1_TooManyOfAKind(t *testing.T) {
	const d, r, x = "fact p%d/0 now.", "rule a%d 0: p -> +p.", "pattern a%d: p => p."
	full := many(d, 60) + many(r, 60) + many(x, 10)
	holdParse(t, full)
	if p, _, e := Parse(full); e != api.OK || len(p.Decls) != 60 || len(p.Rules) != 60 || len(p.Pats) != 10 {
		t.Errorf("%v, %v", short(p), e)
	}
	for _, one := range []string{d, r, x} {
		one = fmt.Sprintf(one, 7)
		refuses(t, full+one, 131, 1, api.ErrLen)
		refuses(t, full+"  % so\n \n "+one+one+many(d, 3)+many(r, 3)+many(x, 3), 133, 2, api.ErrLen)
		// What does not fit is told first, wherever it stands.
		refuses(t, full+one+"\n\n  p", 133, 3, api.ErrText)
		refuses(t, full+one+"\n"+one+" fact p/6 now.", 132, len(one)+9, api.ErrText)
		refuses(t, full+one+"\nrule a 0: not p -> +p.", 132, 1, api.ErrText)
		refuses(t, full+one+"\npattern", 132, 2, api.ErrText)
		refuses(t, "fact p/6 now.\n"+full+one, 1, 8, api.ErrText)
		refuses(t, one[:len(one)-1]+"\n"+full, 2, 1, api.ErrText)
	}
	// The first one too many of them all, whichever kind it is of.
	for _, c := range []struct {
		text string
		line int
	}{
		{many(d, 61), 61}, {many(d, 62), 61}, {many(r, 61), 61}, {many(r, 100), 61}, {many(x, 11), 11}, {many(x, 50), 11},
		{many(d, 61) + many(r, 61) + many(x, 11), 61}, {many(r, 61) + many(d, 61) + many(x, 11), 61}, {many(x, 11) + many(r, 61) + many(d, 61), 11}, {many(d, 60) + many(x, 11) + many(d, 1), 71}, {many(x, 10) + many(d, 61) + many(x, 1), 71},
		{many(d, 30) + many(r, 60) + many(d, 30) + many(x, 10) + many(r, 1) + many(d, 1) + many(x, 1), 131}, {many(r, 60) + many(x, 5) + many(d, 60) + many(x, 6) + many(r, 1), 131},
	} {
		refuses(t, c.text, c.line, 1, api.ErrLen)
		refuses(t, "\n\n"+c.text, c.line+2, 1, api.ErrLen)
	}
}

// A whole text of the shortest parts ends in good time (R1).
func TestP13_1_FullTexts(t *testing.T) {
	for _, line := range []string{"fact p/1 now.", "rule a 0:p->+p.", "rule a 0:p->drop 0.", "pattern a:p=>p."} {
		count := api.MaxText / len(line)
		most := 61
		if line[0] == 'p' {
			most = 11
		}
		text := strings.Repeat(line, count)
		refuses(t, text, 1, len(line)*(most-1)+1, api.ErrLen)
		l := signsOf(t, line)
		refuses(t, text[:len(text)-1], 1, len(line)*(count-1)+l[len(l)-2].At.Col+1, api.ErrText)
		refuses(t, text[:len(text)-len(line)]+"p", 1, len(text)-len(line)+1, api.ErrText)
	}
	for _, sign := range []string{".", "fact ", "rule ", "pattern ", "p ", "(", "X ", "1 "} {
		text := strings.Repeat(sign, api.MaxText/len(sign))
		col := 1
		if len(sign) > 4 {
			col = len(sign) + 1
		}
		refuses(t, text, 1, col, api.ErrText)
	}
	for ahead, again := range map[string]string{"rule a 0:": "p,", "rule a 0:p->": "+p,", "rule a 0:p(1": ",1", "rule a 0:p->+p(1": ",1", "pattern a:p=>": "not ", "pattern a:p=>p(1": ",1"} {
		text := ahead + strings.Repeat(again, (api.MaxText-len(ahead))/len(again))
		holdParse(t, text)
		holdParse(t, text[:len(text)-1])
	}
}

// signTexts tells texts of one sign of each kind, and of some that may stand nowhere.
func signTexts() []string {
	return strings.Fields(`fact rule pattern p q event persist forbid not drop once X -1 0 007 5 6 1001 "\"" ( ) [ ] , . : / + * - = != < <= -> =>`)
}

// eachList tells all lists that go on from a beginning by up to so many of the texts.
func eachList(l, texts []string, most int, tell func([]string)) {
	tell(l)
	if most == 0 {
		return
	}
	for _, s := range texts {
		eachList(slices.Concat(l, []string{s}), texts, most-1, tell)
	}
}

func TestP13_1_AllShortTexts(t *testing.T) {
	holdList := func(l []string) { holdParse(t, strings.Join(l, " ")) }
	for _, ahead := range []string{"", "fact p", "fact p / 1 event", "fact p / 1 event .", "rule a 0 : p -> + p", "pattern a : p => p"} {
		eachList(strings.Fields(ahead), signTexts(), 2, holdList)
	}
	eachList(nil, strings.Fields("fact p / 1 event ."), 6, holdList)
	eachList(strings.Fields("fact p / 1"), strings.Fields("fact p / 6 now ."), 5, holdList)
	eachList(strings.Fields("rule a 0 : p"), strings.Fields("-> + p . fact pattern"), 5, holdList)
	eachList(strings.Fields("pattern a : p"), strings.Fields("=> not p . fact rule"), 5, holdList)
}

// longTexts tells texts of programs, right ones and others whose signs fit, and the like.
func longTexts() []string {
	return []string{
		baseText, strings.ReplaceAll(baseText, "\n", ""),
		"pattern b:p(X)=>once p(X). rule a 5: p(X), not q -> +t, +q. % x\nfact p/1 event.fact q/00 persist.\n\n fact event/0 event.",
		"rule a 1001: p -> +r. fact p/1 event.", "fact p/1 event. fact q/6 event. rule a 0: p -> +r.", "pattern p: q => " + strings.Repeat("not ", 12) + "q. fact p/1 now.",
		"rule f 0: p -> +r.\nrule g 0: p(1, 2, 3, 4, 5, 6) -> +r. fact", "rule a 0: p, [" + strings.Repeat("(", 16) + ". fact p/1 now.",
	}
}

// Long texts with one sign left out, put in or put in another's place.
func TestP13_1_EachSignOfLongTexts(t *testing.T) {
	for _, text := range longTexts() {
		l := textsOf(t, text)
		for i := range l {
			holdParse(t, strings.Join(l[:i], " "))
			holdParse(t, strings.Join(l[i:], "\n"))
			holdParse(t, strings.Join(without(l, i), " "))
			for _, s := range signTexts() {
				holdParse(t, strings.Join(with(l, i, s), " "))
				holdParse(t, strings.Join(wedged(l, i, s), "\n"))
			}
		}
	}
}

// Long texts with one byte left out, put in or put in another's place.
func TestP13_1_EachByteOfLongTexts(t *testing.T) {
	for _, text := range longTexts() {
		for i := range len(text) {
			holdParse(t, text[:i])
			holdParse(t, text[i:])
			holdParse(t, text[:i]+text[i+1:])
			for _, c := range []string{" ", "\n", "%", ".", "/", "-", "0", "9", "a", "Z", "\"", "(", ")", "!", "\xff"} {
				holdParse(t, text[:i]+c+text[i+1:])
				holdParse(t, text[:i]+c+text[i:])
			}
		}
	}
}

// Pairs of signs put in other signs' places: the first fault is told.
func TestP13_1_PairsOfFaults(t *testing.T) {
	l := textsOf(t, "fact p/1 event. rule a 0: p -> +r. fact q/0 now. pattern a: t => p.")
	texts := strings.Fields("fact p / 1 6 . rule pattern -> X")
	for i := range l {
		for j := range i {
			for _, s := range texts {
				for _, u := range texts {
					holdParse(t, strings.Join(with(with(l, i, s), j, u), " "))
				}
			}
		}
	}
}

// bounds is where a piece of memory begins and ends.
type bounds struct{ from, to uintptr }

func pieceOf[T any](first *T, count int) []bounds {
	var one T
	if count == 0 {
		return nil
	}
	from := uintptr(unsafe.Pointer(first))
	return []bounds{{from, from + uintptr(count)*unsafe.Sizeof(one)}}
}

// room tells a list's piece, spare room too.
func room[T any](l []T) []bounds { return pieceOf(unsafe.SliceData(l), cap(l)) }

func textOf(s string) []bounds { return pieceOf(unsafe.StringData(s), len(s)) }

func piecesOfAtom(a api.Atom) []bounds {
	all := slices.Concat(textOf(a.Name), room(a.Args))
	for _, x := range a.Args[:cap(a.Args)] {
		all = slices.Concat(all, textOf(x.Var), textOf(x.Val.S))
	}
	return all
}

func piecesOfSteps(l []api.Op) []bounds {
	all := room(l)
	for _, x := range l[:cap(l)] {
		all = slices.Concat(all, textOf(x.Var), textOf(x.Val.S))
	}
	return all
}

func piecesOfRule(r api.Rule) []bounds {
	all := slices.Concat(textOf(r.Name), room(r.Conds), room(r.Acts))
	for _, c := range r.Conds[:cap(r.Conds)] {
		all = slices.Concat(all, piecesOfAtom(c.Atom), piecesOfSteps(c.Left), piecesOfSteps(c.Right))
	}
	for _, a := range r.Acts[:cap(r.Acts)] {
		all = slices.Concat(all, textOf(a.Name), room(a.Args))
		for _, x := range a.Args[:cap(a.Args)] {
			all = append(all, piecesOfSteps(x)...)
		}
	}
	return all
}

// pieces tells those of a program, of what is in its spare room too.
func pieces(p api.Program) []bounds {
	all := slices.Concat(room(p.Decls), room(p.Rules), room(p.Pats))
	for _, d := range p.Decls[:cap(p.Decls)] {
		all = append(all, textOf(d.Name)...)
	}
	for _, r := range p.Rules[:cap(p.Rules)] {
		all = append(all, piecesOfRule(r)...)
	}
	for _, x := range p.Pats[:cap(p.Pats)] {
		all = slices.Concat(all, textOf(x.Name), piecesOfAtom(x.Trigger), room(x.Nodes))
		for _, n := range x.Nodes[:cap(x.Nodes)] {
			all = append(all, piecesOfAtom(n.Atom)...)
		}
	}
	return all
}

func apart(t *testing.T, name string, a, b []bounds) {
	t.Helper()
	for _, p := range a {
		for _, q := range b {
			if p.from < q.to && q.from < p.to {
				t.Errorf("%s: memory is shared", short(name))
			}
		}
	}
}

// own holds that no two pieces of one answer share any.
func own(t *testing.T, name string, pieces []bounds) {
	t.Helper()
	for i := range pieces {
		apart(t, name, pieces[:i], pieces[i:i+1])
	}
}

// What is read is new memory, strings too, and the text's bytes are not among it (R2).
func TestP13_1_MemoryOfReading(t *testing.T) {
	texts := append(longTexts(), "fact long/0 now. rule long 0: long(long) -> +long. pattern long: long(Long) => not long.", many("fact p%d/0 now.", 60), many("rule a%d 0: p -> +p.", 20)+many("pattern a%d: p => p.", 10))
	for _, text := range texts {
		text = strings.Clone(text)
		p, _, _ := Parse(text)
		apart(t, text, pieces(p), textOf(text))
		own(t, text, pieces(p))
		q, _, _ := Parse(text)
		apart(t, text, pieces(p), pieces(q))
	}
}

// What is checked and written is neither changed nor read behind its length, and no text shares its memory (R2, R6).
func TestP13_1_MemoryOfCheckingAndWriting(t *testing.T) {
	p := base()
	p.Decls = append(p.Decls, api.Decl{}, decl("spare", 0, 1))[:5]
	p.Rules = append(p.Rules, api.Rule{}, smallRule())[:2]
	p.Pats = append(p.Pats, api.Pattern{}, smallPattern())[:2]
	p.Rules[0].Conds = append(p.Rules[0].Conds, api.Cond{}, api.Cond{})[:3]
	p.Pats[0].Nodes = append(p.Pats[0].Nodes, api.Node{}, api.Node{})[:4]
	spare := func() string {
		return fmt.Sprintf("%#v %#v %#v %#v %#v %#v", p, p.Decls[:7], p.Rules[:4], p.Pats[:4], p.Rules[0].Conds[:5], p.Pats[0].Nodes[:6])
	}
	before := spare()
	text, e := Text(p)
	if text != baseText || e != api.OK || Check(p) != api.OK {
		t.Errorf("%q, %v, %v", text, e, Check(p))
	}
	apart(t, text, textOf(text), pieces(p))
	for count := range 6 {
		hold(t, api.Program{Decls: p.Decls[:count], Rules: p.Rules[:count%3], Pats: p.Pats[:count%2]})
	}
	if after := spare(); after != before {
		t.Errorf("%s was changed to %s", before, after)
	}
	full := sized(60, 60, 10)
	full.Decls, full.Rules, full.Pats = append(full.Decls, api.Decl{})[:60], append(full.Rules, api.Rule{})[:60], append(full.Pats, api.Pattern{})[:10]
	holdAs(t, full, api.OK)
}

// What is answered hangs on the arguments alone (R3).
func TestP13_1_TwiceTheSame(t *testing.T) {
	texts := append(longTexts(), "", "!", "fact", "fact p/1 event.", "fact p/6 event.", "rule", "pattern", many("pattern a%d: p => p.", 11))
	tell := func(text string) string {
		p, at, e := Parse(text)
		s, eS := Text(p)
		return fmt.Sprint(p, at, e, s, eS, Check(p))
	}
	for _, text := range texts {
		first := tell(text)
		for _, other := range texts {
			tell(other)
			if again := tell(text); again != first {
				t.Errorf("%q is %s behind %q, not %s", text, again, other, first)
			}
		}
	}
}

func holdWritten(t *testing.T, p api.Program) {
	t.Helper()
	text, e := Text(p)
	if e != api.OK {
		t.Fatalf("Text(%v): %v", short(p), e)
	}
	if q, at, e := Parse(text); !same(p, q) || at != (api.Pos{}) || e != api.OK {
		t.Errorf("%q of %v is read as %v, %v, %v", short(text), short(p), short(q), at, e)
	}
}

func TestP13_2_WrittenProgramsAreRead(t *testing.T) {
	for _, p := range rightPrograms() {
		holdWritten(t, p)
	}
	for count := api.MaxText - 250; count <= api.MaxText; count += 5 {
		holdWritten(t, lengthy(t, count))
	}
	holdWritten(t, api.Program{Decls: sized(60, 0, 0).Decls, Rules: sized(0, 60, 0).Rules, Pats: []api.Pattern{longPattern()}})
}

// some tells one of l.
func some[T any](by *rand.Rand, l []T) T { return l[by.Intn(len(l))] }

func someTerm(by *rand.Rand) api.Term {
	return some(by, []api.Term{variable("X"), variable("Y1"), constant(num(by.Intn(7) - 3)), constant(num(api.Least)), constant(num(api.Most)), constant(sym("not")), constant(sym("fact")), constant(str("")), constant(str(`.\"%`)), constant(str("fact p/1 event."))})
}

func someAtom(by *rand.Rand) api.Atom {
	a := atom(some(by, rightNames()))
	for range by.Intn(api.MaxArgs + 1) {
		a.Args = append(a.Args, someTerm(by))
	}
	return a
}

// mixed tells a right program of parts that are picked at random, of a seed that stays.
func mixed(by *rand.Rand) api.Program {
	var p api.Program
	for range by.Intn(10) {
		p.Decls = append(p.Decls, decl(some(by, rightNames()), by.Intn(6), 1+by.Intn(5)))
	}
	for range by.Intn(5) {
		r := rule()
		r.Name, r.Prio, r.Conds[0].Atom, r.Conds[1].Atom = some(by, rightNames()), by.Intn(2001)-1000, someAtom(by), someAtom(by)
		r.Acts[0].Name = some(by, rightNames())
		for i := range r.Acts[0].Args {
			x := someTerm(by)
			if x.Var != "" {
				r.Acts[0].Args[i] = steps(pushVar(x.Var))
			} else {
				r.Acts[0].Args[i] = steps(pushVal(x.Val), pushVar("Z"), api.Op{Kind: api.Sub})
			}
		}
		r.Conds = r.Conds[:1+by.Intn(3)]
		r.Acts = r.Acts[by.Intn(2):]
		p.Rules = append(p.Rules, r)
	}
	for range by.Intn(4) {
		x := pattern()
		x.Name, x.Trigger, x.Nodes[0].Atom, x.Nodes[2].Atom = some(by, rightNames()), someAtom(by), someAtom(by), someAtom(by)
		x.Nodes = x.Nodes[:some(by, []int{1, 2, 4})]
		p.Pats = append(p.Pats, x)
	}
	return p
}

func TestP13_2_MixedPrograms(t *testing.T) {
	by := rand.New(rand.NewSource(13))
	for range 2000 {
		p := mixed(by)
		holdAs(t, p, api.OK)
		holdWritten(t, p)
		text, _ := plainText(p)
		l := textsOf(t, text)
		if len(l) == 0 {
			continue
		}
		for range 3 {
			i, j := by.Intn(len(l)), by.Intn(len(l))
			between := some(by, []string{" ", "\n", "%\n"})
			for _, changed := range [][]string{with(l, i, some(by, signTexts())), wedged(l, i, l[j]), without(l, i), slices.Concat(l[:i], l[j:])} {
				holdParse(t, strings.Join(changed, between))
			}
		}
	}
}

// Whatever text a program is read from, it is written as one text, which is read as the same.
func TestP13_2_ReadOnesAreWritten(t *testing.T) {
	for text, want := range map[string]string{
		"fact p/1event.":                     "fact p/1 event.\n",
		"fact p / 01 event.fact q/-0 now .":  "fact p/1 event.\nfact q/0 now.\n",
		"rule a 007:p(X)->+r.fact p/1 next.": "fact p/1 next.\nrule a 7: p(X) -> +r.\n",
		"% so\npattern a:p=>not(q or r).rule b -0:p->drop 00.\nfact p/5 forbid.": "fact p/5 forbid.\nrule b 0: p -> drop 0.\npattern a: p => not (q or r).\n",
		"\tfact a/1 now.\r\nrule a 1: a->+b.\r\nfact b/1 persist.":               "fact a/1 now.\nfact b/1 persist.\nrule a 1: a -> +b.\n",
		" % nothing": "",
	} {
		p, _, e := Parse(text)
		if e != api.OK {
			t.Fatal(text, e)
		}
		if again, e := Text(p); again != want || e != api.OK {
			t.Errorf("%q, %v; want %q", again, e, want)
		}
		holdWritten(t, p)
	}
}

func FuzzP13_2(f *testing.F) {
	for _, text := range append(longTexts(), "", "%", "fact", "fact p/6 event.", "fact p/1 event.\nrule", "pattern\n", many("pattern a%d:p=>p.", 11), many("fact p%d/1 now.", 61)) {
		f.Add(text)
	}
	f.Fuzz(func(t *testing.T, text string) {
		if len(text) > 2000 {
			return
		}
		holdParse(t, text)
		p, _, e := Parse(text)
		if e != api.OK {
			return
		}
		hold(t, p)
		// Blanks and signs may be put closer in a text than they are written.
		if _, told := Text(p); told == api.OK {
			holdWritten(t, p)
		}
	})
}
