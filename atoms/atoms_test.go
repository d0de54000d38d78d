package atoms

import (
	"fmt"
	"math/big"
	"regexp"
	"slices"
	"strconv"
	"strings"
	"testing"
	"unsafe"

	"constable/api"
	"constable/lex"
)

func num(n int) api.Value    { return api.Value{Kind: api.Int, N: n} }
func sym(s string) api.Value { return api.Value{Kind: api.Sym, S: s} }
func str(s string) api.Value { return api.Value{Kind: api.Str, S: s} }

func variable(name string) api.Term { return api.Term{Var: name} }
func constant(v api.Value) api.Term { return api.Term{Val: v} }

func atom(name string, terms ...api.Term) api.Atom { return api.Atom{Name: name, Args: terms} }

func pushVar(name string) api.Op { return api.Op{Kind: api.PushVar, Var: name} }
func pushVal(v api.Value) api.Op { return api.Op{Kind: api.PushVal, Val: v} }
func do(kind int) api.Op         { return api.Op{Kind: kind} }
func steps(l ...api.Op) []api.Op { return l }

func token(kind int, text string) api.Token { return api.Token{Kind: kind, Text: text} }
func tokens(l ...api.Token) []api.Token     { return l }
func nameSign(text string) api.Token        { return token(api.TokName, text) }
func varSign(text string) api.Token         { return token(api.TokVar, text) }
func numSign(text string) api.Token         { return token(api.TokNum, text) }
func strSign(text string) api.Token         { return token(api.TokStr, text) }
func markSign(text string) api.Token        { return token(api.TokSign, text) }

func sameAtom(a, b api.Atom) bool { return a.Name == b.Name && slices.Equal(a.Args, b.Args) }
func isZero(a api.Atom) bool      { return sameAtom(a, api.Atom{}) }

func without[T any](l []T, at int) []T     { return slices.Concat(l[:at], l[at+1:]) }
func with[T any](l []T, at int, x T) []T   { return slices.Concat(l[:at], []T{x}, l[at+1:]) }
func wedged[T any](l []T, at int, x T) []T { return slices.Concat(l[:at], []T{x}, l[at:]) }

func words() []string {
	return strings.Fields("fact rule pattern not and or before once always since drop")
}

func kinds() []int { return []int{api.Add, api.Sub, api.Mul} }

// leftDeep, rightDeep and full tell the texts of expressions of so many brackets in one another.
func leftDeep(depth int, leaf, op string) string {
	return strings.Repeat("(", depth) + leaf + strings.Repeat(" "+op+" "+leaf+")", depth)
}

func rightDeep(depth int, leaf, op string) string {
	return strings.Repeat("("+leaf+" "+op+" ", depth) + leaf + strings.Repeat(")", depth)
}

func full(depth int, leaf, op string) string {
	if depth == 0 {
		return leaf
	}
	part := full(depth-1, leaf, op)
	return "(" + part + " " + op + " " + part + ")"
}

func short(v any) string {
	s := fmt.Sprintf("%v", v)
	if len(s) > 300 {
		return s[:300] + ".."
	}
	return s
}

func signsOf(t *testing.T, text string) []api.Token {
	t.Helper()
	l, at, e := lex.Tokens(text)
	if e != api.OK {
		t.Fatalf("%q has no signs: %v, %v", short(text), at, e)
	}
	return l
}

func rightValues() []api.Value {
	return []api.Value{
		num(0), num(1), num(-1), num(api.Most), num(api.Least), sym("a"), sym("not"), sym("drop"), sym("aB_1"), sym(strings.Repeat("z", api.MaxName)),
		str(""), str("a"), str("X"), str("-1"), str(`"`), str(`\`), str(`a"b\c`), str("a, b) % ("), str(strings.Repeat("~", api.MaxStr)), str(strings.Repeat(`\`, api.MaxStr)), str(strings.Repeat(`"`, api.MaxStr)),
	}
}

func rightVars() []string {
	return []string{"X", "A", "Z", "X1_y", "Not", "NOT", strings.Repeat("Z", api.MaxName)}
}

func wrongValues() []api.Value {
	return []api.Value{
		{}, {Kind: -1}, {Kind: api.Str + 1}, {N: 1}, {S: "a"}, num(api.Most + 1), num(api.Least - 1), {Kind: api.Int, S: "a"}, sym(""), sym("A"), sym("a b"), sym("_"),
		{Kind: api.Sym, N: 1, S: "a"}, sym(strings.Repeat("a", api.MaxName+1)), str("\n"), str("\x7f"), str("\xff"), {Kind: api.Str, N: 1}, str(strings.Repeat("a", api.MaxStr+1)),
	}
}

func wrongVars() []string {
	return []string{"x", "xX", "_X", "1", " ", " X", "X ", "X-", "X\x00", "É", "\xff", "not", strings.Repeat("X", api.MaxName+1)}
}

func rightTerms() []api.Term {
	var l []api.Term
	for _, v := range rightValues() {
		l = append(l, constant(v))
	}
	for _, name := range rightVars() {
		l = append(l, variable(name))
	}
	return l
}

func wrongTerms() []api.Term {
	var l []api.Term
	for _, v := range wrongValues() {
		l = append(l, constant(v))
		if v != (api.Value{}) {
			l = append(l, api.Term{Var: "X", Val: v})
		}
	}
	for _, v := range rightValues() {
		l = append(l, api.Term{Var: "X", Val: v})
	}
	for _, name := range wrongVars() {
		l = append(l, variable(name))
	}
	return l
}

func rightNames() []string {
	return []string{"p", "a", "z", "nots", "no", "facts", "p1_Q", "aND", strings.Repeat("q", api.MaxName)}
}

func wrongNames() []string {
	return append(words(), "", "P", "X", "_p", "1", "p ", " p", "p(", "p\x00", "é", "pé", "\xff", strings.Repeat("q", api.MaxName+1))
}

// rightAtoms tells atoms of all counts of terms, each right term at each place among them.
func rightAtoms() []api.Atom {
	var all []api.Atom
	for _, name := range rightNames() {
		all = append(all, atom(name))
	}
	terms := rightTerms()
	for i, a := range terms {
		all = append(all, atom("p", a))
		for j, b := range terms {
			all = append(all, atom("p", a, b), atom("p", a, b, terms[(i+j)%len(terms)]), atom("p", b, b, a, terms[j/2], a), atom("p", terms[i/2], a, b, a))
		}
	}
	return all
}

// everyRight tells all right expressions of up to so many steps of the pushes.
func everyRight(pushes []api.Op, most int, tell func([]api.Op)) {
	var grow func(l []api.Op, depth int)
	grow = func(l []api.Op, depth int) {
		if depth == 1 {
			tell(l)
		}
		if len(l) == most {
			return
		}
		for _, op := range pushes {
			grow(slices.Concat(l, steps(op)), depth+1)
		}
		for _, kind := range kinds() {
			if depth > 1 {
				grow(slices.Concat(l, steps(do(kind))), depth-1)
			}
		}
	}
	grow(nil, 0)
}

// leftward and rightward tell right expressions of 2*doings+1 steps: the shapes with the lowest and the highest stack.
func leftward(push api.Op, kind, doings int) []api.Op {
	return append(steps(push), slices.Repeat(steps(push, do(kind)), doings)...)
}

func rightward(push api.Op, kind, doings int) []api.Op {
	return append(slices.Repeat(steps(push), doings+1), slices.Repeat(steps(do(kind)), doings)...)
}

// Plain writing: a term's text by its kind, an expression's from its end on.

func plainTerm(t api.Term) string {
	switch {
	case t.Var != "":
		return t.Var
	case t.Val.Kind == api.Int:
		return big.NewInt(int64(t.Val.N)).String()
	case t.Val.Kind == api.Sym:
		return t.Val.S
	default:
		return `"` + strings.NewReplacer(`"`, `\"`, `\`, `\\`).Replace(t.Val.S) + `"`
	}
}

func plainAtom(a api.Atom) string {
	var texts []string
	for _, t := range a.Args {
		texts = append(texts, plainTerm(t))
	}
	if texts == nil {
		return a.Name
	}
	return a.Name + "(" + strings.Join(texts, ", ") + ")"
}

// plainExpr tells the text of the part that l ends with, and the steps ahead of that part.
func plainExpr(l []api.Op) (string, []api.Op) {
	last, rest := l[len(l)-1], l[:len(l)-1]
	if last.Kind == api.PushVar || last.Kind == api.PushVal {
		return plainTerm(api.Term{Var: last.Var, Val: last.Val}), rest
	}
	upper, rest := plainExpr(rest)
	lower, rest := plainExpr(rest)
	return "(" + lower + " " + map[int]string{api.Add: "+", api.Sub: "-", api.Mul: "*"}[last.Kind] + " " + upper + ")", rest
}

// Plain reading: each sign is one letter (n a name, k a word, v a variable, # a number, s a string, a mark itself, ? none), and the letters are held against patterns.

var plainSigns = [...]*regexp.Regexp{
	api.TokName: regexp.MustCompile(`^[a-z][A-Za-z0-9_]{0,23}$`),
	api.TokVar:  regexp.MustCompile(`^[A-Z][A-Za-z0-9_]{0,23}$`),
	api.TokNum:  regexp.MustCompile(`^-?[0-9]+$`),
	api.TokStr:  regexp.MustCompile(`^"([ !#-\[\]-~]|\\["\\]){0,60}"$`),
	api.TokSign: regexp.MustCompile(`^[()+*,-]$`),
}

func plainLetter(x api.Token) string {
	if x.Kind < api.TokName || x.Kind > api.TokSign || !plainSigns[x.Kind].MatchString(x.Text) {
		return "?"
	}
	switch x.Kind {
	case api.TokName:
		if slices.Contains(words(), x.Text) {
			return "k"
		}
		return "n"
	case api.TokVar:
		return "v"
	case api.TokNum:
		n, _ := new(big.Int).SetString(x.Text, 10)
		if n.CmpAbs(new(big.Int).Lsh(big.NewInt(1), 62)) > 0 {
			return "?"
		}
		return "#"
	case api.TokStr:
		return "s"
	default:
		return x.Text
	}
}

func plainLetters(l []api.Token) string {
	letters := ""
	for _, x := range l {
		letters += plainLetter(x)
	}
	return letters
}

func plainTermOf(x api.Token) api.Term {
	switch x.Kind {
	case api.TokVar:
		return variable(x.Text)
	case api.TokName:
		return constant(sym(x.Text))
	case api.TokNum:
		n, _ := new(big.Int).SetString(x.Text, 10)
		return constant(num(int(n.Int64())))
	default:
		return constant(str(strings.NewReplacer(`\"`, `"`, `\\`, `\`).Replace(x.Text[1 : len(x.Text)-1])))
	}
}

var (
	wholeAtom = regexp.MustCompile(`^n\([nkv#s](,[nkv#s])*\)`)
	begunAtom = regexp.MustCompile(`^n\(([nkv#s](,[nkv#s])*,?)?`)
)

// plainRead tells what Read is to tell of a list, and of a place of it or its end.
func plainRead(l []api.Token, at int) (api.Atom, int, api.Errno) {
	letters := plainLetters(l[at:])
	if !strings.HasPrefix(letters, "n") {
		return api.Atom{}, at, api.ErrText
	}
	a := atom(l[at].Text)
	if !strings.HasPrefix(letters, "n(") {
		return a, at + 1, api.OK
	}
	whole := wholeAtom.FindString(letters)
	if whole == "" {
		return api.Atom{}, at + len(begunAtom.FindString(letters)), api.ErrText
	}
	if strings.Count(whole, ",") > 4 {
		return api.Atom{}, at, api.ErrText
	}
	for i := 2; i < len(whole); i += 2 {
		a.Args = append(a.Args, plainTermOf(l[at+i]))
	}
	return a, at + len(whole), api.OK
}

// reduced tells the letters with t for each term and each bracket that is closed: an expression's come to t, those that an expression may go on from are open.
func reduced(letters string) string {
	letters = strings.NewReplacer("n", "t", "k", "t", "v", "t", "#", "t", "s", "t", "+", "o", "-", "o", "*", "o").Replace(letters)
	for strings.Contains(letters, "(tot)") {
		letters = strings.ReplaceAll(letters, "(tot)", "t")
	}
	return letters
}

var open = regexp.MustCompile(`^(\((to)?)*t?$`)

// plainReadExpr tells what ReadExpr is to tell of a list, and of a place of it or its end.
func plainReadExpr(l []api.Token, at int) ([]api.Op, int, api.Errno) {
	letters := plainLetters(l[at:])
	so := ""
	for i := range len(letters) {
		so = reduced(so + letters[i:i+1])
		switch {
		case !open.MatchString(so):
			return nil, at + i, api.ErrText
		case strings.Count(so, "(") > 15:
			return nil, at, api.ErrText
		case so == "t" && len(plainOps(l[at:at+i+1])) > 15:
			return nil, at, api.ErrText
		case so == "t":
			return plainOps(l[at : at+i+1]), at + i + 1, api.OK
		}
	}
	return nil, len(l), api.ErrText
}

// plainOps tells the steps of the signs of one expression: each ) does what stands in its brackets.
func plainOps(l []api.Token) []api.Op {
	var ops []api.Op
	var waiting []int
	for _, x := range l {
		last := len(waiting) - 1
		switch plainLetter(x) {
		case "(":
		case ")":
			ops, waiting = append(ops, do(waiting[last])), waiting[:last]
		case "+":
			waiting = append(waiting, api.Add)
		case "-":
			waiting = append(waiting, api.Sub)
		case "*":
			waiting = append(waiting, api.Mul)
		default:
			t := plainTermOf(x)
			op := api.Op{Kind: api.PushVal, Val: t.Val}
			if t.Var != "" {
				op = pushVar(t.Var)
			}
			ops = append(ops, op)
		}
	}
	return ops
}

func holdRead(t *testing.T, l []api.Token, at int) {
	t.Helper()
	a, next, e := Read(l, at)
	if want, place, told := plainRead(l, at); !sameAtom(a, want) || next != place || e != told {
		t.Errorf("Read(%v, %d) = %v, %d, %v; want %v, %d, %v", short(l), at, short(a), next, e, want, place, told)
	}
}

func holdReadExpr(t *testing.T, l []api.Token, at int) {
	t.Helper()
	x, next, e := ReadExpr(l, at)
	if want, place, told := plainReadExpr(l, at); !slices.Equal(x, want) || next != place || e != told {
		t.Errorf("ReadExpr(%v, %d) = %v, %d, %v; want %v, %d, %v", short(l), at, short(x), next, e, want, place, told)
	}
}

func holdBoth(t *testing.T, l []api.Token) {
	t.Helper()
	for at := range len(l) + 1 {
		holdRead(t, l, at)
		holdReadExpr(t, l, at)
	}
}

// eachList tells all lists of up to so many of the signs.
func eachList(signs []api.Token, most int, tell func([]api.Token)) {
	var grow func(l []api.Token)
	grow = func(l []api.Token) {
		tell(l)
		if len(l) == most {
			return
		}
		for _, x := range signs {
			grow(slices.Concat(l, tokens(x)))
		}
	}
	grow(nil)
}

// rightSigns tells one sign of each letter, and some that may stand nowhere.
func rightSigns() []api.Token {
	l := tokens(nameSign("p"), nameSign("not"), varSign("X"), numSign("-1"), numSign("007"), strSign(`"\""`))
	for _, m := range strings.Fields("( ) , + - * . / [ = -> <=") {
		l = append(l, markSign(m))
	}
	return l
}

// oddSigns tells texts under each kind, of their own one and of others: few of them are signs that a text may have.
func oddSigns() []api.Token {
	texts := []string{
		"", " ", "a", "not", "X", "1", "-1", "00", "-0", `"a"`, `""`, "(", ")", ",", "+", "-", "*", "((", "()", "->", ".", "a b", "a ", " a", "a\n", "a%", "%a", "%", "a(", "aé", "é", "_a", "_", "\x00", "\xff", "a\x00",
		"X ", " X", "X Y", "X-1", "XÉ", "1 ", " 1", "1%", "+1", "--1", "- 1", "1_0", "0x1", "1e1", "1.0", "1a", "a1", "4611686018427387904", "-4611686018427387904", "4611686018427387905", "-4611686018427387905", "9223372036854775807", "-9223372036854775808", "18446744073709551616", strings.Repeat("9", 1000), strings.Repeat("0", 1000) + "7",
		`"`, `"a`, `a"`, `"a" `, ` "a"`, `"a""b"`, `"""`, `"\"`, `"\n"`, "\"\n\"", "\"\x7f\"", `"é"`, `'a'`, `"\\"`, `"\""`, `"a\`, `"` + strings.Repeat(`\"`, 60) + `"`, `"` + strings.Repeat(`\"`, 61) + `"`, `"` + strings.Repeat("x", 60) + `"`, `"` + strings.Repeat("x", 61) + `"`,
		strings.Repeat("a", 24), strings.Repeat("a", 25), strings.Repeat("X", 24), strings.Repeat("X", 25), strings.Repeat("a", 20001), strings.Repeat("(", 20001),
	}
	var l []api.Token
	for kind := -1; kind <= api.TokSign+1; kind++ {
		for _, text := range texts {
			l = append(l, token(kind, text))
		}
	}
	return l
}

func TestP10_1_ExampleOfTheChapter(t *testing.T) {
	want := atom("p", variable("X"), constant(num(1)), constant(str("a")))
	if a, e := Parse(`p(X, 1, "a")`); !sameAtom(a, want) || e != api.OK {
		t.Errorf("%v, %v", a, e)
	}
	if text, e := Text(want); text != `p(X, 1, "a")` || e != api.OK {
		t.Errorf("%q, %v", text, e)
	}
	if l, next, e := ReadExpr(signsOf(t, "X -1"), 0); !slices.Equal(l, steps(pushVar("X"))) || next != 1 || e != api.OK {
		t.Errorf("X -1 is two terms, but: %v, %d, %v", l, next, e)
	}
}

func TestP10_1_TextOfRightAtoms(t *testing.T) {
	for _, a := range rightAtoms() {
		if text, e := Text(a); text != plainAtom(a) || e != api.OK {
			t.Errorf("Text(%v) = %q, %v; want %q", a, text, e, plainAtom(a))
		}
	}
}

func refuseText(t *testing.T, a api.Atom) {
	t.Helper()
	if text, e := Text(a); text != "" || e != api.ErrArg {
		t.Errorf("Text(%v) = %q, %v", short(a), text, e)
	}
}

func TestP10_1_TextRefusesWrongAtoms(t *testing.T) {
	refuseText(t, api.Atom{})
	one := variable("X")
	for _, name := range wrongNames() {
		refuseText(t, atom(name))
		refuseText(t, atom(name, one))
	}
	for _, count := range []int{6, 7, 100, 100000} {
		refuseText(t, atom("p", slices.Repeat([]api.Term{one}, count)...))
	}
	for count := 1; count <= api.MaxArgs; count++ {
		for place := range count {
			for _, wrong := range wrongTerms() {
				refuseText(t, atom("p", with(slices.Repeat([]api.Term{one}, count), place, wrong)...))
			}
		}
	}
}

func holdExprText(t *testing.T, l []api.Op) {
	t.Helper()
	want, _ := plainExpr(l)
	if text, e := Expr(l); text != want || e != api.OK {
		t.Errorf("Expr(%v) = %q, %v; want %q", l, text, e, want)
	}
}

func rightPushes() []api.Op {
	var l []api.Op
	for _, v := range rightValues() {
		l = append(l, pushVal(v))
	}
	for _, name := range rightVars() {
		l = append(l, pushVar(name))
	}
	return l
}

func TestP10_1_ExprOfRightExpressions(t *testing.T) {
	everyRight(rightPushes(), 3, func(l []api.Op) { holdExprText(t, l) })
	everyRight(steps(pushVar("X"), pushVal(num(-2))), 9, func(l []api.Op) { holdExprText(t, l) })
	for _, push := range rightPushes() {
		for _, kind := range kinds() {
			holdExprText(t, leftward(push, kind, 7))
			holdExprText(t, rightward(push, kind, 7))
		}
	}
}

func refuseExpr(t *testing.T, l []api.Op) {
	t.Helper()
	if text, e := Expr(l); text != "" || e != api.ErrArg {
		t.Errorf("Expr(%v) = %q, %v", short(l), text, e)
	}
}

func TestP10_1_ExprRefusesWrongExpressions(t *testing.T) {
	one := pushVal(num(1))
	for _, l := range [][]api.Op{nil, {}, {{}}, {do(api.Add)}, {one, one}, {one, do(api.Add)}, {do(api.Mul), one, one}, {one, do(api.Sub), one}, {one, one, do(api.Add), do(api.Add), one}, leftward(one, api.Add, 8), rightward(one, api.Add, 8), slices.Repeat(steps(one), 100000)} {
		refuseExpr(t, l)
	}
	for _, x := range wrongTerms() {
		if x.Var != "" {
			refuseExpr(t, steps(api.Op{Kind: api.PushVar, Var: x.Var, Val: x.Val}))
		} else {
			refuseExpr(t, steps(one, api.Op{Kind: api.PushVal, Val: x.Val}, do(api.Add)))
		}
	}
	for _, kind := range []int{-1, 0, api.Mul + 1} {
		refuseExpr(t, steps(one, one, do(kind)))
		refuseExpr(t, steps(api.Op{Kind: kind, Var: "X"}))
	}
	for _, kind := range kinds() {
		refuseExpr(t, steps(one, one, api.Op{Kind: kind, Var: "X"}))
		refuseExpr(t, steps(one, one, api.Op{Kind: kind, Val: num(1)}))
	}
}

// Places beyond the list are refused ahead of all else, with no place told.
func TestP10_1_PlacesBeyondTheList(t *testing.T) {
	for _, l := range [][]api.Token{nil, {}, signsOf(t, "p"), signsOf(t, "p(X)"), signsOf(t, "(X + 1)"), {{}}, signsOf(t, "p(1,2,3,4,5,6)")} {
		for _, at := range []int{-1, -2, -1 << 62, -1 << 63, len(l) + 1, len(l) + 2, 1 << 40, 1<<63 - 1} {
			if a, next, e := Read(l, at); !isZero(a) || next != 0 || e != api.ErrArg {
				t.Errorf("Read(%v, %d) = %v, %d, %v", l, at, a, next, e)
			}
			if x, next, e := ReadExpr(l, at); len(x) != 0 || next != 0 || e != api.ErrArg {
				t.Errorf("ReadExpr(%v, %d) = %v, %d, %v", l, at, x, next, e)
			}
		}
		if a, next, e := Read(l, len(l)); !isZero(a) || next != len(l) || e != api.ErrText {
			t.Errorf("Read(%v) at its end = %v, %d, %v", l, a, next, e)
		}
		if x, next, e := ReadExpr(l, len(l)); len(x) != 0 || next != len(l) || e != api.ErrText {
			t.Errorf("ReadExpr(%v) at its end = %v, %d, %v", l, x, next, e)
		}
	}
}

func TestP10_1_AllShortLists(t *testing.T) {
	eachList(rightSigns(), 3, func(l []api.Token) { holdBoth(t, l) })
	few := tokens(nameSign("p"), varSign("X"), markSign("("), markSign(")"), markSign(","))
	eachList(few, 7, func(l []api.Token) { holdRead(t, l, 0) })
	few = tokens(numSign("-1"), markSign("("), markSign(")"), markSign("-"))
	eachList(few, 8, func(l []api.Token) { holdReadExpr(t, l, 0) })
}

// Long lists with one sign left out, put in or put in another's place, from each of their places on.
func TestP10_1_EachSignOfLongLists(t *testing.T) {
	for _, text := range []string{
		"p", "p q", "p(X)", `p(X, -1, "a", not, q) .`, "p(1,2,3,4,5) p(1,2,3,4,5,6) p(1,2,3,4,5,6,7)", "not p(not)", "p(p(p))",
		`((X - -1) * ("a" + not)) + 1`, "(((1 + X) + (2 * Y)) - ((3 - 4) * q)) (1)", leftDeep(7, "1", "+") + " X", rightDeep(7, "X", "-"), leftDeep(8, "1", "*"),
	} {
		l := signsOf(t, text)
		holdBoth(t, l)
		for i := range l {
			holdBoth(t, l[:i])
			holdBoth(t, without(l, i))
			for _, x := range rightSigns() {
				for at := range i + 1 {
					holdRead(t, with(l, i, x), at)
					holdReadExpr(t, with(l, i, x), at)
				}
				holdRead(t, wedged(l, i, x), 0)
				holdReadExpr(t, wedged(l, i, x), 0)
			}
		}
	}
}

// Signs that no text has fit nowhere; those that one has fit by their kind.
func TestP10_1_OddSigns(t *testing.T) {
	for _, text := range []string{"p(X, 1)", "q", "(X + (1 - 2))", `"a"`} {
		l := signsOf(t, text)
		for i := range l {
			for _, x := range oddSigns() {
				holdRead(t, with(l, i, x), 0)
				holdReadExpr(t, with(l, i, x), 0)
			}
		}
	}
	for _, x := range oddSigns() {
		holdReadExpr(t, tokens(x), 0)
		holdRead(t, tokens(x), 0)
	}
}

func TestP10_1_NumbersWithZerosAhead(t *testing.T) {
	long := strings.Repeat("0", api.MaxText-1)
	for text, want := range map[string]int{
		"0": 0, "-0": 0, "000": 0, "-000": 0, "007": 7, "-007": -7, "10": 10, "0010": 10, "08": 8, "4611686018427387904": 1 << 62, "-4611686018427387904": -1 << 62, "004611686018427387904": 1 << 62, "-0004611686018427387904": -1 << 62, long + "1": 1,
	} {
		l := append(signsOf(t, "p("), numSign(text), markSign(")"))
		if a, next, e := Read(l, 0); !sameAtom(a, atom("p", constant(num(want)))) || next != 4 || e != api.OK {
			t.Errorf("%q: %v, %d, %v", short(text), a, next, e)
		}
		if x, next, e := ReadExpr(l, 2); !slices.Equal(x, steps(pushVal(num(want)))) || next != 3 || e != api.OK {
			t.Errorf("%q: %v, %d, %v", short(text), x, next, e)
		}
	}
}

// A symbol may be a word that no name may be.
func TestP10_1_WordsAreSymbolsButNoNames(t *testing.T) {
	for _, word := range words() {
		l := signsOf(t, "p("+word+")")
		if a, next, e := Read(l, 0); !sameAtom(a, atom("p", constant(sym(word)))) || next != 4 || e != api.OK {
			t.Errorf("%v, %d, %v", a, next, e)
		}
		if a, next, e := Read(l, 2); !isZero(a) || next != 2 || e != api.ErrText {
			t.Errorf("%v, %d, %v", a, next, e)
		}
		if x, next, e := ReadExpr(l, 2); !slices.Equal(x, steps(pushVal(sym(word)))) || next != 3 || e != api.OK {
			t.Errorf("%v, %d, %v", x, next, e)
		}
		if a, e := Parse(word); !isZero(a) || e != api.ErrText {
			t.Errorf("%v, %v", a, e)
		}
		if a, e := Parse(word + "(X)"); !isZero(a) || e != api.ErrText {
			t.Errorf("%v, %v", a, e)
		}
		if a, e := Parse(word + "s"); !sameAtom(a, atom(word+"s")) || e != api.OK {
			t.Errorf("%v, %v", a, e)
		}
	}
}

// reads and refuses hold the place behind the atom that is read, or the place at which none is.
func reads(t *testing.T, text string, at, behind int) {
	t.Helper()
	if a, next, e := Read(signsOf(t, text), at); isZero(a) || next != behind || e != api.OK {
		t.Errorf("Read(%q, %d) = %v, %d, %v; want one up to %d", short(text), at, short(a), next, e, behind)
	}
}

func refuses(t *testing.T, text string, at, place int) {
	t.Helper()
	if a, next, e := Read(signsOf(t, text), at); !isZero(a) || next != place || e != api.ErrText {
		t.Errorf("Read(%q, %d) = %v, %d, %v; want none, at %d", short(text), at, short(a), next, e, place)
	}
}

func readsExpr(t *testing.T, text string, at, behind int) {
	t.Helper()
	if x, next, e := ReadExpr(signsOf(t, text), at); len(x) == 0 || next != behind || e != api.OK {
		t.Errorf("ReadExpr(%q, %d) = %v, %d, %v; want one up to %d", short(text), at, short(x), next, e, behind)
	}
}

func refusesExpr(t *testing.T, text string, at, place int) {
	t.Helper()
	if x, next, e := ReadExpr(signsOf(t, text), at); len(x) != 0 || next != place || e != api.ErrText {
		t.Errorf("ReadExpr(%q, %d) = %v, %d, %v; want none, at %d", short(text), at, short(x), next, e, place)
	}
}

func TestP10_1_TooManyTerms(t *testing.T) {
	for count := 1; count <= 5; count++ {
		whole := "p(X" + strings.Repeat(", X", count-1) + ")"
		reads(t, whole+" q", 0, 2+2*count)
		reads(t, "q r "+whole, 2, 4+2*count)
	}
	for _, count := range []int{6, 7, 50, 2000} {
		for _, term := range []string{"X", "-1", "not", `""`} {
			most := "p(" + term + strings.Repeat(", "+term, count-1)
			last := 1 + 2*count
			// Each sign fits: where the atom begins. One does not: there.
			refuses(t, most+")", 0, 0)
			refuses(t, most+") !=", 0, 0)
			refuses(t, "q r "+most+")", 2, 2)
			refuses(t, most, 0, last)
			refuses(t, most+".", 0, last)
			refuses(t, most+" + 1)", 0, last)
			refuses(t, most+",", 0, last+1)
			refuses(t, most+",)", 0, last+1)
			refuses(t, most+", p(X))", 0, last+2)
			refuses(t, "q "+most+" X)", 1, last+1)
		}
	}
}

func TestP10_1_TooManySteps(t *testing.T) {
	for depth := range 8 {
		readsExpr(t, leftDeep(depth, "1", "+")+" 1", 0, 4*depth+1)
		readsExpr(t, "q "+rightDeep(depth, "X", "*"), 1, 4*depth+2)
	}
	readsExpr(t, full(3, "1", "-"), 0, 29)
	long := []string{full(4, "1", "-"), full(5, "X", "+"), full(10, "a", "*")}
	for depth := 8; depth <= 15; depth++ {
		long = append(long, leftDeep(depth, "1", "+"), rightDeep(depth, "X", "*"))
	}
	for _, whole := range long {
		last := len(signsOf(t, whole)) - 1
		most := whole[:len(whole)-1]
		// Each sign fits: where the expression begins. One does not: there.
		refusesExpr(t, whole, 0, 0)
		refusesExpr(t, whole+" !=", 0, 0)
		refusesExpr(t, "q ("+whole, 2, 2)
		refusesExpr(t, most, 0, last)
		refusesExpr(t, "q "+most, 1, last+1)
		refusesExpr(t, most+",", 0, last)
		refusesExpr(t, most+" 1", 0, last)
	}
}

func TestP10_1_TooManyBrackets(t *testing.T) {
	for _, way := range []string{"(", "(X + ", "( % so\n"} {
		ahead := strings.Repeat(way, 15)
		count := len(signsOf(t, ahead))
		// 15 are open: the sign that does not fit is told, or the end.
		refusesExpr(t, ahead, 0, count)
		refusesExpr(t, ahead+"]", 0, count)
		refusesExpr(t, ahead+")", 0, count)
		refusesExpr(t, ahead+"X]", 0, count+1)
		refusesExpr(t, "q r "+ahead+"X", 2, count+3)
		// 16 are open: where the expression begins, whatever stands behind.
		for _, behind := range []string{"", "]", "!=", ")", "+", "X", "X]", "1 + 1)", "(", strings.Repeat("(", 100)} {
			refusesExpr(t, ahead+"("+behind, 0, 0)
			refusesExpr(t, "q r "+ahead+"("+behind, 2, 2)
		}
	}
}

// What is closed is not open any more.
func TestP10_1_ClosedBracketsDoNotCount(t *testing.T) {
	ahead := strings.Repeat("((1 - 2) * ", 14)
	refusesExpr(t, ahead+"(]", 0, 14*7+1)
	refusesExpr(t, ahead+"((1 - 2) * ]", 0, 0)
	refusesExpr(t, strings.Repeat("(", 15)+"X + Y) - (]", 0, 21)
	refusesExpr(t, strings.Repeat("(", 15)+"X + Y) - ((]", 0, 0)
}

func TestP10_1_TheFirstFaultIsTold(t *testing.T) {
	more := strings.Repeat("(", 16)
	for depth := 1; depth <= 15; depth++ {
		ahead := strings.Repeat("(", depth)
		refusesExpr(t, ahead+"+"+more, 0, depth)
		refusesExpr(t, ahead+"X,"+more, 0, depth+1)
		refusesExpr(t, ahead+"X -1"+more, 0, depth+1)
		refusesExpr(t, ahead+"X + Y -"+more, 0, depth+3)
		refusesExpr(t, ahead+"X + "+more, 0, 0)
	}
}

// Very long lists end, and in good time (R1).
func TestP10_1_VeryLongLists(t *testing.T) {
	const count = 300000
	name, bracket, comma := nameSign("p"), markSign("("), markSign(",")
	l := append(tokens(name, bracket), slices.Repeat(tokens(name, comma), count)...)
	if a, next, e := Read(l, 0); !isZero(a) || next != len(l) || e != api.ErrText {
		t.Error(short(a), next, e)
	}
	if a, next, e := Read(append(l, name, markSign(")")), 0); !isZero(a) || next != 0 || e != api.ErrText {
		t.Error(short(a), next, e)
	}
	if x, next, e := ReadExpr(slices.Repeat(tokens(bracket), count), 1); len(x) != 0 || next != 1 || e != api.ErrText {
		t.Error(short(x), next, e)
	}
	if x, next, e := ReadExpr(slices.Repeat(tokens(bracket, name, markSign("-")), count), 0); len(x) != 0 || next != 0 || e != api.ErrText {
		t.Error(short(x), next, e)
	}
	// As many steps as 15 brackets in one another may hold.
	l = tokens(name)
	for range 15 {
		l = slices.Concat(tokens(bracket), l, tokens(markSign("+")), l, tokens(markSign(")")))
	}
	if x, next, e := ReadExpr(append(tokens(name), l...), 1); len(x) != 0 || next != 1 || e != api.ErrText {
		t.Error(short(x), next, e)
	}
	if x, next, e := ReadExpr(l[:len(l)-1], 0); len(x) != 0 || next != len(l)-1 || e != api.ErrText {
		t.Error(short(x), next, e)
	}
}

func holdParse(t *testing.T, text string) {
	t.Helper()
	a, e := Parse(text)
	l, _, told := lex.Tokens(text)
	var want api.Atom
	if told == api.OK {
		var next int
		want, next, told = plainRead(l, 0)
		if told == api.OK && next != len(l) {
			want, told = api.Atom{}, api.ErrText
		}
	}
	if !sameAtom(a, want) || e != told {
		t.Errorf("Parse(%q) = %v, %v; want %v, %v", short(text), a, e, want, told)
	}
}

func TestP10_1_ParseOfAllShortTexts(t *testing.T) {
	pieces := []string{"p", "not", "X", "-1", "(", ")", ",", " ", "%\n", "!", `"\""`}
	var grow func(text string, left int)
	grow = func(text string, left int) {
		holdParse(t, text)
		if left > 0 {
			for _, p := range pieces {
				grow(text+p, left-1)
			}
		}
	}
	grow("", 5)
}

func TestP10_1_ParseTellsTheFirstError(t *testing.T) {
	blank := strings.Repeat(" ", api.MaxText-len("p(X)"))
	for text, want := range map[string]api.Errno{
		"": api.ErrText, " ": api.ErrText, "% p": api.ErrText, "p": api.OK, " p ": api.OK, "p%": api.OK, "p(X)": api.OK, "p ( X\n,\t1 ) % end": api.OK,
		"p.": api.ErrText, "p p": api.ErrText, "p(X))": api.ErrText, "p(X) X": api.ErrText, "p(X),": api.ErrText, "P": api.ErrText, "1": api.ErrText, "p()": api.ErrText, "p(X,)": api.ErrText, "p(,X)": api.ErrText, "(p)": api.ErrText, "p(1, 2, 3, 4, 5)": api.OK, "p(1, 2, 3, 4, 5, 6)": api.ErrText,
		"p!": api.ErrSign, "not !": api.ErrSign, "p() !": api.ErrSign, "p(1, 2, 3, 4, 5, 6) _": api.ErrSign, "p(4611686018427387905)": api.ErrSign, `p("a)`: api.ErrSign, strings.Repeat("p", 25): api.ErrSign, "p(" + strings.Repeat("X", 25) + ")": api.ErrSign,
		"p(X)" + blank: api.OK, blank + "p(X)": api.OK, " " + blank + "p(X)": api.ErrLen, "p(X) " + blank: api.ErrLen, "!" + strings.Repeat(" ", api.MaxText): api.ErrLen, strings.Repeat("!", api.MaxText+1): api.ErrLen, strings.Repeat("(", api.MaxText): api.ErrText, strings.Repeat("p", 100000): api.ErrLen,
	} {
		if a, e := Parse(text); e != want || isZero(a) != (want != api.OK) {
			t.Errorf("Parse(%q) = %v, %v; want %v", short(text), short(a), e, want)
		}
		holdParse(t, text)
	}
}

// nil and empty are the same (R2).
func TestP10_1_NilIsEmpty(t *testing.T) {
	for _, l := range [][]api.Term{nil, {}, {variable("X")}} {
		if text, e := Text(api.Atom{Name: "p", Args: l[:0]}); text != "p" || e != api.OK {
			t.Errorf("%q, %v", text, e)
		}
	}
	for _, l := range [][]api.Op{nil, {}, {pushVar("X")}} {
		refuseExpr(t, l[:0])
	}
	for _, l := range [][]api.Token{nil, {}, {nameSign("p")}} {
		holdBoth(t, l[:0])
	}
}

// bounds is where a piece of memory begins and ends.
type bounds struct{ from, to uintptr }

func pieceOf[T any](first *T, count int) []bounds {
	var one T
	if count == 0 {
		return nil
	}
	from := uintptr(unsafe.Pointer(first))
	return []bounds{{from, from + uintptr(count)*unsafe.Sizeof(one)}}
}

func textOf(s string) []bounds { return pieceOf(unsafe.StringData(s), len(s)) }

func piecesOfTokens(l []api.Token) []bounds {
	all := pieceOf(unsafe.SliceData(l), cap(l))
	for _, x := range l[:cap(l)] {
		all = append(all, textOf(x.Text)...)
	}
	return all
}

func piecesOfAtom(a api.Atom) []bounds {
	all := append(textOf(a.Name), pieceOf(unsafe.SliceData(a.Args), cap(a.Args))...)
	for _, x := range a.Args[:cap(a.Args)] {
		all = append(append(all, textOf(x.Var)...), textOf(x.Val.S)...)
	}
	return all
}

func piecesOfOps(l []api.Op) []bounds {
	all := pieceOf(unsafe.SliceData(l), cap(l))
	for _, x := range l[:cap(l)] {
		all = append(append(all, textOf(x.Var)...), textOf(x.Val.S)...)
	}
	return all
}

func apart(t *testing.T, name string, a, b []bounds) {
	t.Helper()
	for _, p := range a {
		for _, q := range b {
			if p.from < q.to && q.from < p.to {
				t.Errorf("%s: memory is shared", name)
			}
		}
	}
}

// own holds that no two pieces of one answer share any.
func own(t *testing.T, name string, pieces []bounds) {
	t.Helper()
	for i := range pieces {
		apart(t, name, pieces[:i], pieces[i:i+1])
	}
}

// roomy tells a copy of the signs, down to the bytes, with signs in the spare room that would go on.
func roomy(l []api.Token, spare string) []api.Token {
	more, _, _ := lex.Tokens(spare)
	all := slices.Concat(l, more)
	for i := range all {
		all[i].Text = strings.Clone(all[i].Text)
	}
	return all[:len(l)]
}

// What is handed in is not changed, what is answered is new memory, and spare room is not read (R2, R6).
func TestP10_1_MemoryOfReading(t *testing.T) {
	for _, text := range []string{"", "pred", "pred(", `pred(Xyz, "abc", -12, sym`, `pred(Xyz, "abc", -12, sym)`, "pred(A,B,C,D,E,F)", "(", "(Xyz", "(Xyz + ", `("abc" * (sym - Xyz)`, `("abc" * (sym - Xyz))`, "Xyz", "sym", `"abc"`, strings.Repeat("(", 15), leftDeep(7, "Long", "+")} {
		for _, spare := range []string{"(X)", "X)", ", X)", ")", "+ X)", "* X", "(((((", "X + 1)"} {
			l := roomy(signsOf(t, text), spare)
			plain := slices.Clip(slices.Clone(l))
			before := fmt.Sprintf("%#v", l[:cap(l)])
			a, next, e := Read(l, 0)
			if b, nextB, d := Read(plain, 0); !sameAtom(a, b) || next != nextB || e != d {
				t.Errorf("Read of %q reads spare room %q: %v, %d, %v; want %v, %d, %v", text, spare, a, next, e, b, nextB, d)
			}
			x, next, e := ReadExpr(l, 0)
			if y, nextY, d := ReadExpr(plain, 0); !slices.Equal(x, y) || next != nextY || e != d {
				t.Errorf("ReadExpr of %q reads spare room %q: %v, %d, %v; want %v, %d, %v", text, spare, x, next, e, y, nextY, d)
			}
			if after := fmt.Sprintf("%#v", l[:cap(l)]); after != before {
				t.Errorf("%s was changed to %s", before, after)
			}
			apart(t, "Read of "+text, piecesOfAtom(a), piecesOfTokens(l))
			apart(t, "ReadExpr of "+text, piecesOfOps(x), piecesOfTokens(l))
			own(t, "Read of "+text, piecesOfAtom(a))
			own(t, "ReadExpr of "+text, piecesOfOps(x))
		}
	}
	text := strings.Clone(`pred(Xyz, "abc", -12, sym)`)
	a, _ := Parse(text)
	apart(t, "Parse", piecesOfAtom(a), textOf(text))
	own(t, "Parse", piecesOfAtom(a))
}

// Signs that share their bytes are read to terms that share none.
func TestP10_1_SignsOfOneMemory(t *testing.T) {
	text := strings.Repeat("Long", 3)
	l := tokens(nameSign("p"), markSign("("), varSign(text), markSign(","), varSign(text[:8]), markSign(","), varSign(text[:8]), markSign(")"))
	a, _, e := Read(l, 0)
	if !sameAtom(a, atom("p", variable(text), variable(text[:8]), variable(text[:8]))) || e != api.OK {
		t.Fatal(a, e)
	}
	own(t, "Read", piecesOfAtom(a))
	x, _, e := ReadExpr(with(tokens(markSign("("), varSign(text), markSign("+"), varSign(text[:8]), markSign(")")), 0, markSign("(")), 0)
	if len(x) != 3 || e != api.OK {
		t.Fatal(x, e)
	}
	own(t, "ReadExpr", piecesOfOps(x))
}

func TestP10_1_MemoryOfWriting(t *testing.T) {
	for _, a := range []api.Atom{atom("pred"), atom("pred", variable("Xyz")), atom("pred", constant(str("abc")), constant(sym("sym")))} {
		a.Name = strings.Clone(a.Name)
		a.Args = append(slices.Clone(a.Args), variable("Spare"), constant(num(7)))[:len(a.Args)]
		before := fmt.Sprintf("%#v", a.Args[:cap(a.Args)])
		text, e := Text(a)
		if e != api.OK || text != plainAtom(a) || fmt.Sprintf("%#v", a.Args[:cap(a.Args)]) != before {
			t.Errorf("%q, %v: %s", text, e, before)
		}
		apart(t, text, textOf(text), piecesOfAtom(a))
	}
	for _, l := range [][]api.Op{{pushVar(strings.Clone("Xyz"))}, {pushVal(sym(strings.Clone("sym")))}, {pushVal(str(strings.Clone("abc")))}, {pushVar("Xyz"), pushVal(sym("sym")), do(api.Sub)}} {
		l = append(slices.Clone(l), pushVar("Spare"), do(api.Add))[:len(l)]
		before := fmt.Sprintf("%#v", l[:cap(l)])
		want, _ := plainExpr(l)
		text, e := Expr(l)
		if e != api.OK || text != want || fmt.Sprintf("%#v", l[:cap(l)]) != before {
			t.Errorf("%q, %v: %s", text, e, before)
		}
		apart(t, text, textOf(text), piecesOfOps(l))
	}
}

// What is answered hangs on the arguments alone (R3).
func TestP10_1_TwiceTheSame(t *testing.T) {
	texts := []string{"p", "p(X, 1)", "p(", "(X + 1)", strings.Repeat("(", 16), "not", "p(1,2,3,4,5,6)", leftDeep(8, "1", "+")}
	for _, text := range texts {
		l := signsOf(t, text)
		a, next, e := Read(l, 0)
		x, nextX, eX := ReadExpr(l, 0)
		b, eB := Parse(text)
		for _, other := range texts {
			Read(signsOf(t, other), 0)
			ReadExpr(signsOf(t, other), 0)
			Parse(other)
			again, nextAgain, eAgain := Read(l, 0)
			y, nextY, eY := ReadExpr(l, 0)
			c, eC := Parse(text)
			if !sameAtom(a, again) || next != nextAgain || e != eAgain || !slices.Equal(x, y) || nextX != nextY || eX != eY || !sameAtom(b, c) || eB != eC {
				t.Errorf("%q is read otherwise behind %q", text, other)
			}
		}
	}
}

// The place of a sign within its text does not count.
func TestP10_1_PlacesOfSignsDoNotCount(t *testing.T) {
	l := signsOf(t, `p(X, 1, "a")`)
	for i := range l {
		l[i].At = api.Pos{Line: -i, Col: 7}
	}
	holdBoth(t, l)
}

func holdWritten(t *testing.T, a api.Atom) {
	t.Helper()
	text, e := Text(a)
	if e != api.OK {
		t.Fatalf("Text(%v): %v", a, e)
	}
	if b, e := Parse(text); !sameAtom(a, b) || e != api.OK {
		t.Errorf("%q of %v is read as %v, %v", text, a, b, e)
	}
	l := signsOf(t, "q, "+text+" :")
	if b, next, e := Read(l, 2); !sameAtom(a, b) || next != len(l)-1 || e != api.OK {
		t.Errorf("%q of %v is read as %v, up to %d of %d, %v", text, a, b, next, len(l), e)
	}
}

func holdWrittenExpr(t *testing.T, x []api.Op) {
	t.Helper()
	text, e := Expr(x)
	if e != api.OK {
		t.Fatalf("Expr(%v): %v", x, e)
	}
	l := signsOf(t, "q ["+text+" -1")
	if y, next, e := ReadExpr(l, 2); !slices.Equal(x, y) || next != len(l)-1 || e != api.OK {
		t.Errorf("%q of %v is read as %v, up to %d of %d, %v", text, x, y, next, len(l), e)
	}
}

func TestP10_2_WrittenAtomsAreRead(t *testing.T) {
	for _, a := range rightAtoms() {
		holdWritten(t, a)
	}
	for _, x := range rightTerms() {
		holdWritten(t, atom(strings.Repeat("q", api.MaxName), slices.Repeat([]api.Term{x}, api.MaxArgs)...))
	}
}

func TestP10_2_WrittenExpressionsAreRead(t *testing.T) {
	everyRight(rightPushes(), 3, func(x []api.Op) { holdWrittenExpr(t, x) })
	everyRight(steps(pushVar("X"), pushVal(num(-2)), pushVal(sym("not"))), 7, func(x []api.Op) { holdWrittenExpr(t, x) })
	for _, push := range rightPushes() {
		for _, kind := range kinds() {
			holdWrittenExpr(t, leftward(push, kind, 7))
			holdWrittenExpr(t, rightward(push, kind, 7))
		}
	}
}

// Whatever text an atom is read from, it is written as one text, which is read as the same.
func TestP10_2_ReadAtomsAreWritten(t *testing.T) {
	for text, want := range map[string]string{" p ": "p", "p ( X,007 ) % x": "p(X, 7)", "p(-0,\n\"a\\\"\")": `p(0, "a\"")`, "p(not,Not)": "p(not, Not)"} {
		a, e := Parse(text)
		if e != api.OK {
			t.Fatal(text, e)
		}
		if again, e := Text(a); again != want || e != api.OK {
			t.Errorf("%q, %v; want %q", again, e, want)
		}
		holdWritten(t, a)
	}
}

func FuzzP10_2(f *testing.F) {
	for _, text := range []string{"", `p(X, 1, "a")`, "p(1,2,3,4,5,6)", "((X - -1) * (Y + X))", strings.Repeat("(", 16), leftDeep(8, "1", "+"), "p ( X,007 ) % x", "not(p)", "p!", strconv.Itoa(api.Least)} {
		f.Add(text, 0, api.TokName)
	}
	f.Fuzz(func(t *testing.T, text string, place, kind int) {
		if len(text) > 500 {
			return
		}
		holdParse(t, text)
		l, _, _ := lex.Tokens(text)
		if place >= 0 && place < len(l) {
			l[place].Kind = kind
		}
		holdBoth(t, l)
		if a, _, e := Read(l, 0); e == api.OK {
			holdWritten(t, a)
		}
		if x, _, e := ReadExpr(l, 0); e == api.OK {
			holdWrittenExpr(t, x)
		}
	})
}
