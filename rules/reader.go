package rules

import (
	"strings"

	"constable/api"
	"constable/atoms"
	"constable/fact"
)

// reader goes through signs. Each of its calls that reads tells ErrText, with next at the sign that does not fit, if one does not; ErrLen as soon as too many brackets are open, wherever next is then.
type reader struct {
	signs []api.Token
	next  int
}

// rule reads up to a rule's point. What it tells may be a wrong rule still: of too many parts, or of parts that are wrong as a whole.
func (in *reader) rule() (r api.Rule, e api.Errno) {
	if !in.takes(api.TokName, "rule") {
		return api.Rule{}, api.ErrText
	}
	if r.Name, e = in.name(); e != api.OK {
		return api.Rule{}, e
	}
	if r.Prio, e = in.number(api.Least); e != api.OK {
		return api.Rule{}, e
	}
	if !in.takes(api.TokSign, ":") {
		return api.Rule{}, api.ErrText
	}
	if r.Conds, e = list(in, in.cond); e != api.OK {
		return api.Rule{}, e
	}
	if !in.takes(api.TokSign, "->") {
		return api.Rule{}, api.ErrText
	}
	if r.Acts, e = list(in, in.act); e != api.OK {
		return api.Rule{}, e
	}
	if !in.takes(api.TokSign, ".") {
		return api.Rule{}, api.ErrText
	}
	return r, api.OK
}

// list reads one thing or more, with commas between.
func list[T any](in *reader, one func() (T, api.Errno)) ([]T, api.Errno) {
	var all []T
	for {
		x, e := one()
		if e != api.OK {
			return nil, e
		}
		all = append(all, x)
		if !in.takes(api.TokSign, ",") {
			return all, api.OK
		}
	}
}

func (in *reader) cond() (c api.Cond, e api.Errno) {
	if in.takes(api.TokSign, "[") {
		return in.guard()
	}
	c.Kind = api.Has
	if in.takes(api.TokName, "not") {
		c.Kind = api.Not
	}
	c.Atom, e = in.atom()
	return c, e
}

// guard reads what stands behind a guard's opening bracket.
func (in *reader) guard() (c api.Cond, e api.Errno) {
	c.Kind = api.Guard
	if c.Left, e = in.expr(); e != api.OK {
		return api.Cond{}, e
	}
	if c.How, e = in.how(); e != api.OK {
		return api.Cond{}, e
	}
	if c.Right, e = in.expr(); e != api.OK {
		return api.Cond{}, e
	}
	if !in.takes(api.TokSign, "]") {
		return api.Cond{}, api.ErrText
	}
	return c, api.OK
}

func (in *reader) how() (int, api.Errno) {
	for _, how := range [...]int{api.Eq, api.Ne, api.Lt, api.Le} {
		if in.takes(api.TokSign, mark(how)) {
			return how, api.OK
		}
	}
	return 0, api.ErrText
}

func (in *reader) act() (a api.Act, e api.Errno) {
	if in.takes(api.TokName, "drop") {
		a.Kind = api.Retract
		a.Which, e = in.number(0)
		return a, e
	}
	if !in.takes(api.TokSign, "+") {
		return api.Act{}, api.ErrText
	}
	a.Kind = api.Assert
	if a.Name, e = in.name(); e != api.OK || !in.takes(api.TokSign, "(") {
		return a, e
	}
	if a.Args, e = list(in, in.expr); e != api.OK {
		return api.Act{}, e
	}
	if !in.takes(api.TokSign, ")") {
		return api.Act{}, api.ErrText
	}
	return a, api.OK
}

// atom reads an atom. One with too many Args is passed, and told as the zero one: that is wrong as well.
func (in *reader) atom() (api.Atom, api.Errno) {
	begin := in.next
	a, next, e := atoms.Read(in.signs, begin)
	in.next = next
	if e == api.OK {
		return a, api.OK
	}
	// Layer 10 tells the beginning both where it does not fit and where all fits, but is too much.
	if next > begin || !in.isName() {
		return api.Atom{}, api.ErrText
	}
	in.next++
	return api.Atom{}, in.passBrackets()
}

// expr reads an expression. One with too many steps is passed, and told as no steps: that is wrong as well.
func (in *reader) expr() ([]api.Op, api.Errno) {
	begin := in.next
	x, next, e := atoms.ReadExpr(in.signs, begin)
	in.next = next
	if e == api.OK {
		return x, api.OK
	}
	// As of an atom: what begins with a bracket that fits is too much.
	if next > begin || !in.is(api.TokSign, "(") {
		return nil, api.ErrText
	}
	return nil, in.passBrackets()
}

// passBrackets goes behind the bracket that closes the next one, where each sign up to it is known to fit: ErrLen, as soon as too many are open in one another.
func (in *reader) passBrackets() api.Errno {
	open := 0
	for in.next < len(in.signs) {
		switch {
		case in.is(api.TokSign, "("):
			open++
		case in.is(api.TokSign, ")"):
			open--
		}
		in.next++
		if open == 0 {
			return api.OK
		}
		if open > api.MaxExpr {
			return api.ErrLen
		}
	}
	return api.ErrText
}

func (in *reader) name() (string, api.Errno) {
	if !in.isName() {
		return "", api.ErrText
	}
	name := strings.Clone(in.signs[in.next].Text)
	in.next++
	return name, api.OK
}

// number reads a number from least on, as it is read in an expression: 0 may stand ahead.
func (in *reader) number(least int) (int, api.Errno) {
	if in.next >= len(in.signs) || in.signs[in.next].Kind != api.TokNum {
		return 0, api.ErrText
	}
	x, next, e := atoms.ReadExpr(in.signs, in.next)
	if e != api.OK || x[0].Val.N < least {
		return 0, api.ErrText
	}
	in.next = next
	return x[0].Val.N, api.OK
}

func (in *reader) isName() bool {
	return in.next < len(in.signs) && in.signs[in.next].Kind == api.TokName && fact.Name(in.signs[in.next].Text)
}

func (in *reader) is(kind int, text string) bool {
	return in.next < len(in.signs) && in.signs[in.next].Kind == kind && in.signs[in.next].Text == text
}

// takes goes behind the next sign, if it is that one.
func (in *reader) takes(kind int, text string) bool {
	if !in.is(kind, text) {
		return false
	}
	in.next++
	return true
}
