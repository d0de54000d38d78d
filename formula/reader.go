package formula

import (
	"strings"

	"constable/api"
	"constable/atoms"
	"constable/fact"
)

// reader goes through signs, to one formula. Each of its calls that reads tells false, with next at the sign that does not fit, if one does not.
type reader struct {
	signs []api.Token
	next  int
	nodes []api.Node
	open  []opened
}

// opened is a node that is still to come behind its own ones: its kind, 0 of a bracket whose word is still to come, and, behind that word, the place of the first one of the two.
type opened struct{ kind, a int }

// pattern reads up to a pattern's point. What it tells may be a wrong pattern still: of an atom with too many Args, or a wrong formula.
func (in *reader) pattern() (p api.Pattern, ok bool) {
	if !in.takes(api.TokName, "pattern") || !in.isName() {
		return api.Pattern{}, false
	}
	p.Name = strings.Clone(in.signs[in.next].Text)
	in.next++
	if !in.takes(api.TokSign, ":") {
		return api.Pattern{}, false
	}
	if p.Trigger, ok = in.atom(); !ok || !in.takes(api.TokSign, "=>") {
		return api.Pattern{}, false
	}
	if p.Nodes, ok = in.formula(); !ok || !in.takes(api.TokSign, ".") {
		return api.Pattern{}, false
	}
	return p, true
}

// formula reads a formula. What it tells may be a wrong one still: of too many nodes, or of an atom with too many Args. It keeps what is open in a list, since a list of signs may open more in one another than calls may stand in one another.
func (in *reader) formula() ([]api.Node, bool) {
	for {
		in.passOpening()
		a, ok := in.atom()
		if !ok {
			return nil, false
		}
		in.add(api.Node{Kind: api.Is, Atom: a})
		if !in.passClosing() {
			return nil, false
		}
		if len(in.open) == 0 {
			return in.nodes, true
		}
	}
}

// passOpening goes behind the words and brackets that stand ahead of an atom.
func (in *reader) passOpening() {
	for {
		kind := in.word(api.Neg, api.Before, api.Once, api.Always)
		if kind == 0 && !in.takes(api.TokSign, "(") {
			return
		}
		in.open = append(in.open, opened{kind: kind})
	}
}

// passClosing adds the nodes whose own ones are all read, up to a bracket whose second one is still to come.
func (in *reader) passClosing() bool {
	for len(in.open) > 0 {
		inner := len(in.open) - 1
		last := len(in.nodes) - 1
		n := in.open[inner]
		switch n.kind {
		case 0:
			kind := in.word(api.And, api.Or, api.Since)
			in.open[inner] = opened{kind: kind, a: last}
			return kind != 0
		case api.And, api.Or, api.Since:
			if !in.takes(api.TokSign, ")") {
				return false
			}
			in.add(api.Node{Kind: n.kind, A: n.a, B: last})
		default:
			in.add(api.Node{Kind: n.kind, A: last})
		}
		in.open = in.open[:inner]
	}
	return true
}

// add keeps one node more than may be, so that the formula is a wrong one, and no more, however many there are.
func (in *reader) add(n api.Node) {
	if len(in.nodes) <= api.MaxNodes {
		in.nodes = append(in.nodes, n)
	}
}

// atom reads an atom. One with too many Args is passed, and told as the zero one: that is wrong as well.
func (in *reader) atom() (api.Atom, bool) {
	begin := in.next
	a, next, e := atoms.Read(in.signs, begin)
	in.next = next
	if e == api.OK {
		return a, true
	}
	// Layer 10 tells the beginning both where it does not fit and where all fits, but is too much.
	if next > begin || !in.isName() {
		return api.Atom{}, false
	}
	for in.next < len(in.signs) {
		if in.takes(api.TokSign, ")") {
			return api.Atom{}, true
		}
		in.next++
	}
	return api.Atom{}, false
}

// word goes behind the next sign, if it is the word of one of the kinds, and tells which one: else 0.
func (in *reader) word(kinds ...int) int {
	for _, kind := range kinds {
		if in.takes(api.TokName, words[kind]) {
			return kind
		}
	}
	return 0
}

func (in *reader) isName() bool {
	return in.next < len(in.signs) && in.signs[in.next].Kind == api.TokName && fact.Name(in.signs[in.next].Text)
}

// takes goes behind the next sign, if it is that one.
func (in *reader) takes(kind int, text string) bool {
	if in.next >= len(in.signs) || in.signs[in.next].Kind != kind || in.signs[in.next].Text != text {
		return false
	}
	in.next++
	return true
}
