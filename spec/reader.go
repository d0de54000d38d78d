package spec

import (
	"strconv"
	"strings"

	"constable/api"
	"constable/fact"
	"constable/formula"
	"constable/rules"
)

// reader goes through all signs of a text, and keeps what it found. Where one of its calls refuses, next is at the sign that it refuses.
type reader struct {
	signs []api.Token
	next  int
	found api.Program
}

// program reads up to the last sign: that there are too many of a kind is told behind it alone, as a sign that does not fit is told ahead of that.
func (in *reader) program() api.Errno {
	over := -1
	for in.next < len(in.signs) {
		begin := in.next
		if !in.part() {
			return api.ErrText
		}
		if over < 0 && in.isOver() {
			over = begin
		}
	}
	if over >= 0 {
		in.next = over
		return api.ErrLen
	}
	return api.OK
}

func (in *reader) isOver() bool {
	return len(in.found.Decls) > api.MaxDecls || len(in.found.Rules) > api.MaxRules || len(in.found.Pats) > api.MaxPats
}

// part reads a declaration, a rule or a pattern.
func (in *reader) part() bool {
	switch {
	case in.is(api.TokName, "fact"):
		return in.decl()
	case in.is(api.TokName, "rule"):
		r, next, e := rules.Read(in.signs, in.next)
		in.next = next
		in.found.Rules = append(in.found.Rules, r)
		return e == api.OK
	case in.is(api.TokName, "pattern"):
		x, next, e := formula.ReadPattern(in.signs, in.next)
		in.next = next
		in.found.Pats = append(in.found.Pats, x)
		return e == api.OK
	default:
		return false
	}
}

func (in *reader) decl() bool {
	var d api.Decl
	if !in.takes(api.TokName, "fact") || !in.name(&d) || !in.takes(api.TokSign, "/") || !in.arity(&d) || !in.kind(&d) || !in.takes(api.TokSign, ".") {
		return false
	}
	in.found.Decls = append(in.found.Decls, d)
	return true
}

func (in *reader) name(d *api.Decl) bool {
	if in.next >= len(in.signs) || !fact.Name(in.signs[in.next].Text) {
		return false
	}
	d.Name = strings.Clone(in.signs[in.next].Text)
	in.next++
	return true
}

func (in *reader) arity(d *api.Decl) bool {
	if in.next >= len(in.signs) || in.signs[in.next].Kind != api.TokNum {
		return false
	}
	// A number's sign is within bounds, so that there is nothing to refuse but what is no number of Args.
	n, _ := strconv.Atoi(in.signs[in.next].Text)
	if n < 0 || n > api.MaxArgs {
		return false
	}
	d.Arity = n
	in.next++
	return true
}

func (in *reader) kind(d *api.Decl) bool {
	for kind := api.Event; kind <= api.Forbid; kind++ {
		if in.takes(api.TokName, kinds[kind]) {
			d.Kind = kind
			return true
		}
	}
	return false
}

// place tells where the next sign stands, or, behind the last one, where that one does, and Col one more.
func (in *reader) place() api.Pos {
	if in.next < len(in.signs) {
		return in.signs[in.next].At
	}
	at := in.signs[len(in.signs)-1].At
	at.Col++
	return at
}

func (in *reader) is(kind int, text string) bool {
	return in.next < len(in.signs) && in.signs[in.next].Kind == kind && in.signs[in.next].Text == text
}

// takes goes behind the next sign, if it is that one.
func (in *reader) takes(kind int, text string) bool {
	if !in.is(kind, text) {
		return false
	}
	in.next++
	return true
}
