package tests

import (
	"math/rand"
	"reflect"
	"slices"
	"strconv"
	"strings"
	"testing"

	"loop.example/wholeway/impl"
)

// The expressions of the document's chapter 2, told a second time and in another way than the program tells them:
// a text is read by cutting it at its weakest op, the last one of that level.
var (
	twoSigns  = map[int]string{3: "+", 4: "-", 5: "*", 6: "/", 7: "%", 8: "<", 9: "=", 10: "&"}
	oneSigns  = map[int]string{11: "!", 12: "@"}
	twoLevels = map[int]int{3: 3, 4: 3, 5: 4, 6: 4, 7: 4, 8: 2, 9: 2, 10: 1}
)

func num(n int) impl.Expr                      { return impl.Expr{Op: impl.ExprNum, N: n} }
func variable(s string) impl.Expr              { return impl.Expr{Op: impl.ExprVar, Name: s} }
func op(n int, kids ...impl.Expr) impl.Expr    { return impl.Expr{Op: n, Kids: kids} }
func call(s string, k ...impl.Expr) impl.Expr  { return impl.Expr{Op: impl.ExprCall, Name: s, Kids: k} }
func plus(a impl.Expr, b impl.Expr) impl.Expr  { return op(impl.ExprAdd, a, b) }
func minus(a impl.Expr, b impl.Expr) impl.Expr { return op(impl.ExprSub, a, b) }
func not(a impl.Expr) impl.Expr                { return op(impl.ExprNot, a) }

// wantSize is how many parts an expression has and how deep it is, whatever its limits; false if a part is wrong.
func wantSize(e impl.Expr) (parts int, deep int, ok bool) {
	parts, ok = 1, e.N == 0 && e.Name == ""
	switch {
	case e.Op == 1:
		ok = byteForm.MatchString(strconv.Itoa(e.N)) && e.Name == "" && len(e.Kids) == 0
	case e.Op == 2:
		ok = e.N == 0 && wantValid(name(e.Name)) && len(e.Kids) == 0
	case e.Op == 13:
		ok = e.N == 0 && wantValid(name(e.Name)) && len(e.Kids) < 4
	case twoSigns[e.Op] != "":
		ok = ok && len(e.Kids) == 2
	case oneSigns[e.Op] != "":
		ok = ok && len(e.Kids) == 1
	default:
		ok = false
	}
	for _, kid := range e.Kids {
		p, d, fine := wantSize(kid)
		parts, deep, ok = parts+p, max(deep, d), ok && fine
	}
	return parts, deep + 1, ok
}

func wantExprValid(e impl.Expr) bool {
	parts, deep, ok := wantSize(e)
	return ok && parts <= 30 && deep <= 6
}

// wantLevel is the level of an op.
func wantLevel(o int) int {
	if twoSigns[o] != "" {
		return twoLevels[o]
	}
	if oneSigns[o] != "" {
		return 5
	}
	return 6
}

// wantExprText is the text of a valid expression.
func wantExprText(e impl.Expr) string {
	var kids []string
	for _, kid := range e.Kids {
		kids = append(kids, wantExprText(kid))
	}
	bracket := func(i int, yes bool) string {
		if yes {
			return "( " + kids[i] + " )"
		}
		return kids[i]
	}
	if sign := twoSigns[e.Op]; sign != "" {
		left, right := wantLevel(e.Kids[0].Op), wantLevel(e.Kids[1].Op)
		return bracket(0, left < wantLevel(e.Op)) + " " + sign + " " + bracket(1, right <= wantLevel(e.Op))
	}
	if sign := oneSigns[e.Op]; sign != "" {
		return sign + " " + bracket(0, wantLevel(e.Kids[0].Op) < 5)
	}
	if e.Op == 13 {
		return strings.Join(strings.Fields(e.Name+" ( "+strings.Join(kids, " , ")+" )"), " ")
	}
	if e.Op == 1 {
		return strconv.Itoa(e.N)
	}
	return e.Name
}

// cutOutside cuts words at each of the signs that stands in no brackets; false if brackets do not fit.
func cutOutside(words []string, signs ...string) (pieces [][]string, cuts []string, ok bool) {
	open, begun := 0, 0
	for i, w := range words {
		switch {
		case w == "(":
			open++
		case w == ")":
			open--
		case open == 0 && slices.Contains(signs, w):
			pieces, cuts, begun = append(pieces, words[begun:i]), append(cuts, w), i+1
		}
		if open < 0 {
			return nil, nil, false
		}
	}
	return append(pieces, words[begun:]), cuts, open == 0
}

// wantTree is the expression of words, whatever its limits.
func wantTree(words []string) (impl.Expr, bool) {
	for level := 1; level <= 4; level++ {
		var signs []string
		for o, sign := range twoSigns {
			if twoLevels[o] == level {
				signs = append(signs, sign)
			}
		}
		pieces, cuts, ok := cutOutside(words, signs...)
		if !ok {
			return impl.Expr{}, false
		}
		if len(cuts) > 0 {
			last := pieces[len(cuts)]
			left, fine := wantTree(words[:len(words)-len(last)-1])
			right, good := wantTree(last)
			return op(opOf(twoSigns, cuts[len(cuts)-1]), left, right), fine && good
		}
	}
	return wantBound(words)
}

// wantBound is the expression of words of which no op between two stands outside of brackets.
func wantBound(words []string) (impl.Expr, bool) {
	n := len(words)
	switch {
	case n == 0:
		return impl.Expr{}, false
	case words[0] == "!" || words[0] == "@":
		kid, ok := wantTree(words[1:])
		return op(opOf(oneSigns, words[0]), kid), ok
	case n == 1 && byteForm.MatchString(words[0]):
		v, _ := strconv.Atoi(words[0])
		return num(v), true
	case n == 1:
		return variable(words[0]), wantValid(name(words[0]))
	case words[n-1] != ")":
		return impl.Expr{}, false
	case words[0] == "(":
		return wantTree(words[1 : n-1])
	case words[1] != "(" || !wantValid(name(words[0])):
		return impl.Expr{}, false
	case n == 3:
		return call(words[0]), true
	}
	pieces, _, ok := cutOutside(words[2:n-1], ",")
	e := call(words[0])
	for _, piece := range pieces {
		kid, fine := wantTree(piece)
		e.Kids, ok = append(e.Kids, kid), ok && fine
	}
	return e, ok
}

func opOf(signs map[int]string, sign string) int {
	for o, s := range signs {
		if s == sign {
			return o
		}
	}
	return 0
}

// wantRead is what ReadExpr should return.
func wantRead(s string) (impl.Expr, bool) {
	words, ok := wantCut(s)
	var texts []string
	for _, w := range words {
		texts = append(texts, w.Text)
	}
	e, fine := wantTree(texts)
	if !ok || !fine || !wantExprValid(e) {
		return impl.Expr{}, false
	}
	return e, true
}

// plainExpr is an expression of memory of its own, with nil for all lists that are empty.
func plainExpr(e impl.Expr) impl.Expr {
	var kids []impl.Expr
	for _, kid := range e.Kids {
		kids = append(kids, plainExpr(kid))
	}
	e.Kids = kids
	return e
}

func equalExprs(a impl.Expr, b impl.Expr) bool { return reflect.DeepEqual(plainExpr(a), plainExpr(b)) }

// checkRead compares ReadExpr of a text with what it should return.
func checkRead(t *testing.T, s string) {
	t.Helper()
	want, wantOk := wantRead(s)
	got, ok := impl.ReadExpr(s)
	if ok != wantOk || !equalExprs(got, want) {
		t.Fatalf("ReadExpr(%q) = %v, %v; want %v, %v", s, got, ok, want, wantOk)
	}
}

// checkExpr compares all that the program tells of one expression, valid or not, with what it should tell,
// and checks promise 2 on it, if it is valid.
func checkExpr(t *testing.T, e impl.Expr) {
	t.Helper()
	before := plainExpr(e)
	parts, deep, _ := wantSize(e)
	valid := wantExprValid(e)
	text := ""
	if valid {
		text = wantExprText(e)
	} else {
		parts, deep = 0, 0
	}
	if got := impl.ExprValid(e); got != valid {
		t.Fatalf("ExprValid(%v) is %v", e, got)
	}
	if got := impl.ExprParts(e); got != parts {
		t.Fatalf("ExprParts(%v) = %d; want %d", e, got, parts)
	}
	if got := impl.ExprDeep(e); got != deep {
		t.Fatalf("ExprDeep(%v) = %d; want %d", e, got, deep)
	}
	if got, ok := impl.ExprText(e); ok != valid || got != text {
		t.Fatalf("ExprText(%v) = %q, %v; want %q, %v", e, got, ok, text, valid)
	}
	checkNames(t, e, text)
	if again, ok := impl.ReadExpr(text); valid && (!ok || !equalExprs(again, e)) {
		t.Fatalf("%v has the text %q, which is read as %v, %v", e, text, again, ok)
	}
	if !reflect.DeepEqual(before, plainExpr(e)) {
		t.Fatalf("%v became %v", before, e)
	}
}

// checkNames compares VarsOf and CallsIn with the names in the text of an expression, which is empty if it is not valid.
func checkNames(t *testing.T, e impl.Expr, text string) {
	t.Helper()
	var vars, calls []string
	words := strings.Fields(text)
	for i, w := range words {
		list := &vars
		if i+1 < len(words) && words[i+1] == "(" {
			list = &calls
		}
		if wantValid(name(w)) && !slices.Contains(*list, w) {
			*list = append(*list, w)
		}
	}
	if got := impl.VarsOf(e); !slices.Equal(got, vars) {
		t.Fatalf("VarsOf(%v) = %q; want %q", e, got, vars)
	}
	if got := impl.CallsIn(e); !slices.Equal(got, calls) {
		t.Fatalf("CallsIn(%v) = %q; want %q", e, got, calls)
	}
}

// wantPut is what PutVar of valid expressions should return: each word that is the variable makes place for the
// words of by, in brackets.
func wantPut(e impl.Expr, s string, by impl.Expr) (impl.Expr, bool) {
	var words []string
	given := strings.Fields(wantExprText(e))
	for i, w := range given {
		if w == s && wantValid(name(w)) && (i+1 == len(given) || given[i+1] != "(") {
			words = append(append(append(words, "("), strings.Fields(wantExprText(by))...), ")")
		} else {
			words = append(words, w)
		}
	}
	put, ok := wantTree(words)
	if !ok || !wantExprValid(put) {
		return impl.Expr{}, false
	}
	return put, true
}

func checkPut(t *testing.T, e impl.Expr, s string, by impl.Expr) {
	t.Helper()
	want, wantOk := impl.Expr{}, false
	if wantExprValid(e) && wantExprValid(by) {
		want, wantOk = wantPut(e, s, by)
	}
	before, beforeBy := plainExpr(e), plainExpr(by)
	got, ok := impl.PutVar(e, s, by)
	if ok != wantOk || !equalExprs(got, want) {
		t.Fatalf("PutVar(%v, %q, %v) = %v, %v; want %v, %v", e, s, by, got, ok, want, wantOk)
	}
	if !equalExprs(e, before) || !equalExprs(by, beforeBy) {
		t.Fatalf("PutVar(%v, %q, %v) changed what it was given", before, s, beforeBy)
	}
	spoil(got)
	if !equalExprs(e, before) || !equalExprs(by, beforeBy) {
		t.Fatalf("the result of PutVar(%v, %q, %v) shares memory with what it was given", before, s, beforeBy)
	}
}

// spoil writes to all lists of Kids, and behind them.
func spoil(e impl.Expr) {
	for _, kid := range e.Kids {
		spoil(kid)
	}
	full := e.Kids[:cap(e.Kids)]
	for i := range full {
		full[i] = impl.Expr{Op: -7, Name: "spoilt"}
	}
}

// row is a chain of ops: (((e op e) op e) ..), or from the right on.
func row(o int, n int, right bool) impl.Expr {
	e := variable("a")
	for range n {
		if right {
			e = op(o, variable("a"), e)
		} else {
			e = op(o, e, variable("a"))
		}
	}
	return e
}

// nots is an expression with n of an op of one Kid.
func nots(o int, n int) impl.Expr {
	e := variable("a")
	for range n {
		e = op(o, e)
	}
	return e
}

// full is a tree of sums, so deep: it has 2^deep - 1 parts.
func full(deep int) impl.Expr {
	if deep == 1 {
		return num(deep)
	}
	return plus(full(deep-1), full(deep-1))
}

// withParts is an expression that has so many parts, and is as flat as ops of two Kids allow: 5 deep with 30 parts.
func withParts(n int) impl.Expr {
	if n < 3 {
		return nots(impl.ExprAt, n-1)
	}
	return plus(withParts((n-1)/2), withParts(n-1-(n-1)/2))
}

// withCalls is an expression that has so many parts, all of them calls with names of 4 letters: none has a longer text.
func withCalls(n int) impl.Expr {
	e := call("abcd")
	for left, places := n-1, 3; left > 0; places-- {
		share := (left + places - 1) / places
		e.Kids = append(e.Kids, withCalls(share))
		left -= share
	}
	return e
}

// someExpr is a random expression that is at most so deep, and may have too many parts.
func someExpr(rnd *rand.Rand, deep int) impl.Expr {
	names := []string{"a", "b", "f", "xyz", "abcd", "lets"}
	if deep == 1 || rnd.Intn(5) == 0 {
		if rnd.Intn(2) == 0 {
			return num(rnd.Intn(256))
		}
		return variable(names[rnd.Intn(len(names))])
	}
	var kids []impl.Expr
	switch o := 3 + rnd.Intn(11); {
	case o == 13:
		for range rnd.Intn(4) {
			kids = append(kids, someExpr(rnd, deep-1))
		}
		return call(names[rnd.Intn(len(names))], kids...)
	case o > 10:
		return op(o, someExpr(rnd, deep-1))
	default:
		return op(o, someExpr(rnd, deep-1), someExpr(rnd, deep-1))
	}
}

// partsOf are pointers to all parts of an expression.
func partsOf(e *impl.Expr) []*impl.Expr {
	list := []*impl.Expr{e}
	for i := range e.Kids {
		list = append(list, partsOf(&e.Kids[i])...)
	}
	return list
}

// changes are small changes of a part, most of which make it wrong.
func changes(e impl.Expr) []impl.Expr {
	var list []impl.Expr
	add := func(change func(x *impl.Expr)) {
		x := plainExpr(e)
		change(&x)
		list = append(list, x)
	}
	for o := -2; o <= 16; o++ {
		add(func(x *impl.Expr) { x.Op = o })
	}
	for _, n := range []int{-1, 0, 1, 255, 256, -255, 1 << 40} {
		add(func(x *impl.Expr) { x.N = n })
	}
	for _, s := range []string{"", "b", "abcd", "abcde", "fn", "do", "A", "1", "a1", " ", "+", "\xff"} {
		add(func(x *impl.Expr) { x.Name = s })
	}
	add(func(x *impl.Expr) { x.Kids = nil })
	add(func(x *impl.Expr) { x.Kids = append(x.Kids, num(1)) })
	add(func(x *impl.Expr) { x.Kids = append(x.Kids, num(1), num(2)) })
	add(func(x *impl.Expr) { x.Kids = append(x.Kids, impl.Expr{}) })
	add(func(x *impl.Expr) { x.Kids = make([]impl.Expr, 4) })
	if len(e.Kids) > 0 {
		add(func(x *impl.Expr) { x.Kids = x.Kids[1:] })
		add(func(x *impl.Expr) { x.Kids[0] = impl.Expr{} })
	}
	return list
}

// shapes are expressions with parts of all ops.
func shapes() []impl.Expr {
	a, b := variable("a"), variable("b")
	list := []impl.Expr{num(0), num(1), num(255), a, call("f"), call("f", a), call("f", a, num(2)), call("f", a, b, call("g"))}
	for o := 3; o <= 10; o++ {
		list = append(list, op(o, a, b))
	}
	for o := 11; o <= 12; o++ {
		list = append(list, op(o, a), op(o, op(23-o, b)))
	}
	return list
}

// trees are all expressions of all ops, but for calls of three, that are at most so deep.
func trees(deep int) []impl.Expr {
	list := []impl.Expr{num(7), variable("a"), call("f")}
	if deep == 1 {
		return list
	}
	below := trees(deep - 1)
	for _, x := range below {
		list = append(list, op(11, x), op(12, x), call("f", x))
		for _, y := range below {
			for o := 3; o <= 10; o++ {
				list = append(list, op(o, x, y))
			}
			list = append(list, call("f", x, y))
		}
	}
	return list
}

func TestExprsAreReadBack(t *testing.T) {
	for _, e := range trees(3) {
		checkExpr(t, e)
	}
	for _, x := range trees(2) {
		for _, y := range trees(2) {
			checkExpr(t, call("abcd", x, y, not(x)))
		}
	}
}

func TestRandomExprs(t *testing.T) {
	rnd := rand.New(rand.NewSource(3))
	valid := 0
	for range 60000 {
		e := someExpr(rnd, 1+rnd.Intn(7))
		if wantExprValid(e) {
			valid++
		}
		checkExpr(t, e)
	}
	if valid < 20000 {
		t.Errorf("only %d expressions are valid", valid)
	}
}

func TestExprTextExamples(t *testing.T) {
	for s, want := range map[string]string{
		"(a+1)*b":              "( a + 1 ) * b",
		"(a*b)+1":              "a * b + 1",
		"((a))":                "a",
		"(((a+b)))":            "a + b",
		"a-(b-c)":              "a - ( b - c )",
		"(a-b)-c":              "a - b - c",
		"a-(b+c)":              "a - ( b + c )",
		"a+b-c+d":              "a + b - c + d",
		"a/(b*c)":              "a / ( b * c )",
		"a%b/c*d":              "a % b / c * d",
		"a-(b*c)":              "a - b * c",
		"(a<b)=(c<d)":          "a < b = ( c < d )",
		"a&(b&c)":              "a & ( b & c )",
		"(a&b)&c":              "a & b & c",
		"a&b<c+d*e":            "a & b < c + d * e",
		"((a&b)<c)+d":          "( ( a & b ) < c ) + d",
		"a*b+c<d&e":            "a * b + c < d & e",
		"a*(b+(c<(d&e)))":      "a * ( b + ( c < ( d & e ) ) )",
		"!(a<b)&@x=3":          "! ( a < b ) & @ x = 3",
		"!@!a":                 "! @ ! a",
		"!(@(!(a)))":           "! @ ! a",
		"!a*!b":                "! a * ! b",
		"!(a*b)":               "! ( a * b )",
		"!(a)*b":               "! a * b",
		"a*(!b)":               "a * ! b",
		"@(1)+@1":              "@ 1 + @ 1",
		"!f(a)":                "! f ( a )",
		"!(f(a))":              "! f ( a )",
		"f(a,(b))":             "f ( a , b )",
		"f((a&b),!(c),(d+e))":  "f ( a & b , ! c , d + e )",
		"f ( ) * ( g ( ) )":    "f ( ) * g ( )",
		"a*(f(a+b))":           "a * f ( a + b )",
		"\n( ( 255\n) ) /0":    "255 / 0",
		"f(f(f(f(f(f())))))+0": "",
	} {
		e, _ := impl.ReadExpr(s)
		if got, ok := impl.ExprText(e); ok != (want != "") || got != want {
			t.Errorf("ExprText of %q = %q, %v; want %q", s, got, ok, want)
		}
		checkRead(t, s)
	}
}

func TestReadExprTrees(t *testing.T) {
	a, b, c := variable("a"), variable("b"), variable("c")
	for s, want := range map[string]impl.Expr{
		"a-b-c":   minus(minus(a, b), c),
		"a-(b-c)": minus(a, minus(b, c)),
		"a-b+c":   plus(minus(a, b), c),
		"a+b*c":   plus(a, op(impl.ExprMul, b, c)),
		"a*b+c":   plus(op(impl.ExprMul, a, b), c),
		"a/b%c":   op(impl.ExprRem, op(impl.ExprDiv, a, b), c),
		"a<b=c":   op(impl.ExprSame, op(impl.ExprLess, a, b), c),
		"a=b<c":   op(impl.ExprLess, op(impl.ExprSame, a, b), c),
		"a&b<c":   op(impl.ExprAnd, a, op(impl.ExprLess, b, c)),
		"!a+b":    plus(not(a), b),
		"!@a":     not(op(impl.ExprAt, a)),
		"@!a&b":   op(impl.ExprAnd, op(impl.ExprAt, not(a)), b),
		"a*!b*c":  op(impl.ExprMul, op(impl.ExprMul, a, not(b)), c),
		"f()":     call("f"),
		"f(a)":    call("f", a),
		"f(a,b)":  call("f", a, b),
		"f(1,b)":  call("f", num(1), b),
		"f(a,b,c)+a": plus(
			call("f", a, b, c), a),
		"f(g(a),b<c)": call("f", call("g", a), op(impl.ExprLess, b, c)),
	} {
		got, ok := impl.ReadExpr(s)
		if !ok || !equalExprs(got, want) {
			t.Errorf("ReadExpr(%q) = %v, %v; want %v", s, got, ok, want)
		}
		checkRead(t, s)
	}
}

func TestReadExprRefuses(t *testing.T) {
	for _, s := range []string{
		"", " ", "()", "( )", "(", ")", "(a", "a)", "((a)", "(a))", ")a(", "(a)(b)", "(a)b", "a(b", "f(", "f(a", "f(a,", "f(a,b", "f)",
		"f(,)", "f(,a)", "f(a,)", "f(a,,b)", "f(a b)", "f(a;b)", "f(a,b,c,d)", "f(1,2,3,)", "f((a,b))", "(f)(a)", "1(a)", "f()()", "f()a", "f(a)1",
		"a+", "+a", "+", "a+*b", "a++b", "a-", "-1", "a b", "1 2", "a 1", "1a", "a!", "a!b", "!", "@", "!)", "a@", "!!", "a=!", "a==b", "a<=b", "a&&b",
		",", "a,b", "a;", "a+b;", "{a}", "let", "do", "fn(a)", "do(a)", "let+1", "a+if", "f(back)", "256", "a+256", "f(300)", "01", "abcde", "abcde()", "a?b", "A",
		strings.Repeat("(", 300) + "a" + strings.Repeat(")", 300), strings.Repeat("(", 600), strings.Repeat("!", 600), strings.Repeat("f(", 300), strings.Repeat("a+", 300), "a+" + strings.Repeat(" ", 3000) + "b",
	} {
		e, ok := impl.ReadExpr(s)
		if ok || !reflect.DeepEqual(plainExpr(e), impl.Expr{}) {
			t.Errorf("ReadExpr(%q) = %v, %v", s, e, ok)
		}
		checkRead(t, s)
	}
}

func TestReadExprManyBrackets(t *testing.T) {
	for _, n := range []int{1, 2, 6, 7, 31, 100, 299} {
		open, shut := strings.Repeat("(", n), strings.Repeat(")", n)
		e, ok := impl.ReadExpr(open + "a" + shut)
		if !ok || !equalExprs(e, variable("a")) {
			t.Errorf("%d brackets: %v, %v", n, e, ok)
		}
		for _, s := range []string{open + "a" + shut + ")", "(" + open + "a" + shut, open + shut, "f(" + open + "a" + shut + ")", "!" + open + "a" + shut} {
			checkRead(t, s)
		}
	}
}

// TestReadExprShortTexts reads all texts of up to so many of these words.
func TestReadExprShortTexts(t *testing.T) {
	for list, most := range map[string]int{
		"a 1 ( ) + * < & ! @ , ; do": 4,
		"a ( ) - / ! ,":              6,
		"a ( ) = % & -":              6,
		"f ( ) ,":                    8,
	} {
		words := strings.Fields(list)
		var walk func(s string, left int)
		walk = func(s string, left int) {
			checkRead(t, s)
			for _, w := range words {
				if left > 0 {
					walk(s+" "+w, left-1)
				}
			}
		}
		walk("", most)
	}
}

// TestReadExprRandomTexts reads texts of expressions, with brackets around some words, and with words left out or put in.
func TestReadExprRandomTexts(t *testing.T) {
	rnd := rand.New(rand.NewSource(4))
	more := strings.Fields("( ) , + - * / % < = & ! @ a 1 255 256 f do ; (")
	for range 60000 {
		e := someExpr(rnd, 1+rnd.Intn(6))
		words := strings.Fields(wantExprText(e))
		for range rnd.Intn(3) {
			at := rnd.Intn(len(words))
			words = slices.Insert(words, at+1, ")")
			words = slices.Insert(words, at, "(")
		}
		checkRead(t, strings.Join(words, " "))
		at := rnd.Intn(len(words))
		if rnd.Intn(2) == 0 {
			words = slices.Delete(words, at, at+1)
		} else {
			words = slices.Insert(words, at, more[rnd.Intn(len(more))])
		}
		checkRead(t, strings.Join(words, "\n"))
	}
}

func TestExprPartsLimit(t *testing.T) {
	for n := 1; n <= 33; n++ {
		e := withParts(n)
		if parts, deep, ok := wantSize(e); parts != n || deep > 6 || !ok {
			t.Fatalf("withParts(%d) has %d parts and is %d deep", n, parts, deep)
		}
		checkExpr(t, e)
		if impl.ExprValid(e) != (n <= 30) {
			t.Errorf("ExprValid of %d parts is %v", n, n > 30)
		}
		checkRead(t, wantExprText(e))
		checkExpr(t, withCalls(n))
		checkRead(t, wantExprText(withCalls(n)))
	}
	checkExpr(t, full(4))
	checkExpr(t, full(5))
	checkExpr(t, full(6))
}

func TestExprDeepLimit(t *testing.T) {
	for n := range 9 {
		list := []impl.Expr{nots(11, n), nots(12, n), call("f", num(1), nots(11, n-1)), plus(num(1), nots(12, n-1)), op(7, nots(12, n-1), num(2))}
		for o := 3; o <= 10; o++ {
			list = append(list, row(o, n, false), row(o, n, true))
		}
		for _, e := range list {
			checkExpr(t, e)
			if _, deep, _ := wantSize(e); deep != max(n+1, 2) && n > 0 {
				t.Fatalf("%v is %d deep", e, deep)
			} else if impl.ExprValid(e) != (deep <= 6) {
				t.Errorf("ExprValid of an expression that is %d deep is %v", deep, deep > 6)
			}
			checkRead(t, wantExprText(e))
		}
	}
}

func TestExprsThatAreWrong(t *testing.T) {
	for _, e := range shapes() {
		for _, wrong := range changes(e) {
			checkExpr(t, wrong)
			checkExpr(t, not(wrong))
			checkExpr(t, op(5, num(3), wrong))
			checkExpr(t, op(10, wrong, variable("z")))
			checkExpr(t, call("k", num(0), num(1), wrong))
		}
	}
	rnd := rand.New(rand.NewSource(5))
	for range 3000 {
		e := someExpr(rnd, 1+rnd.Intn(5))
		parts := partsOf(&e)
		part := parts[rnd.Intn(len(parts))]
		kept := *part
		for _, wrong := range changes(kept) {
			*part = wrong
			checkExpr(t, e)
		}
	}
}

func TestExprValidPlainCases(t *testing.T) {
	a := variable("a")
	for _, e := range []impl.Expr{
		{}, {Op: 14}, {Op: -1}, {Op: 1 << 50}, num(-1), num(256), num(1 << 32), {Op: 1, N: 3, Name: "a"}, {Op: 1, Kids: []impl.Expr{a}},
		{Op: 2}, variable("fn"), variable("abcde"), variable("a1"), variable("A"), {Op: 2, N: 1, Name: "a"}, {Op: 2, Name: "a", Kids: []impl.Expr{a}},
		op(3), op(3, a), op(3, a, a, a), {Op: 3, N: 1, Kids: []impl.Expr{a, a}}, {Op: 10, Name: "a", Kids: []impl.Expr{a, a}},
		not(impl.Expr{}), op(11), op(12, a, a), {Op: 11, N: 1, Kids: []impl.Expr{a}}, {Op: 12, Name: "a", Kids: []impl.Expr{a}},
		call(""), call("do"), call("abcde", a), call("f", a, a, a, a), call("f", impl.Expr{}), {Op: 13, N: 2, Name: "f"},
	} {
		if impl.ExprValid(e) || impl.ExprParts(e) != 0 || impl.ExprDeep(e) != 0 || len(impl.VarsOf(e)) != 0 || len(impl.CallsIn(e)) != 0 {
			t.Errorf("%v is valid", e)
		}
		checkExpr(t, e)
		checkPut(t, e, "a", num(1))
		checkPut(t, a, "b", e)
		checkPut(t, a, "a", e)
	}
	for _, e := range shapes() {
		if !impl.ExprValid(e) {
			t.Errorf("%v is not valid", e)
		}
		e.Kids = slices.Grow(append([]impl.Expr{}, e.Kids...), 3)
		checkExpr(t, e)
	}
}

func TestExprNames(t *testing.T) {
	for s, want := range map[string][2]string{
		"1":                             {"", ""},
		"a":                             {"a", ""},
		"b+a*b":                         {"b a", ""},
		"f(b,a)+g(c)":                   {"b a c", "f g"},
		"f(g(a),h())":                   {"a", "f g h"},
		"a+a(a)":                        {"a", "a"},
		"g(f(g(z)))-f(y)":               {"z y", "g f"},
		"!@x&(y<(w=x))":                 {"x y w", ""},
		"(d-c)*(b-a)":                   {"d c b a", ""},
		"k(k(b),k(a),j(k(c),i(b),a))+m": {"b a c m", "k j i"},
	} {
		e, ok := impl.ReadExpr(s)
		if got := strings.Join(impl.VarsOf(e), " "); !ok || got != want[0] {
			t.Errorf("VarsOf(%q) = %q", s, got)
		}
		if got := strings.Join(impl.CallsIn(e), " "); got != want[1] {
			t.Errorf("CallsIn(%q) = %q", s, got)
		}
	}
}

func TestPutVarExamples(t *testing.T) {
	for _, c := range []struct{ e, name, by, want string }{
		{"f(a,b)+a", "a", "4", "f ( 4 , b ) + 4"},
		{"a*b", "a", "c+d", "( c + d ) * b"},
		{"a*b", "b", "c+d", "a * ( c + d )"},
		{"a+b", "a", "c*d", "c * d + b"},
		{"a-b", "b", "c-d", "a - ( c - d )"},
		{"!a", "a", "b&c", "! ( b & c )"},
		{"a", "a", "f(a)", "f ( a )"},
		{"a+b", "a", "a+b", "a + b + b"},
		{"a(a)", "a", "b", "a ( b )"},
		{"a+ab+b", "a", "ab", "ab + ab + b"},
		{"a+1", "b", "c", "a + 1"},
		{"a+1", "", "c", "a + 1"},
		{"a+1", "fn", "c", "a + 1"},
		{"a+1", "1", "c", "a + 1"},
		{"a+1", "+", "c", "a + 1"},
		{"f()", "f", "c", "f ( )"},
		{"7", "a", "c", "7"},
		{"!!!!!a", "a", "b", "! ! ! ! ! b"},
		{"!!!!!a", "a", "!b", ""},
		{"!!!!!a", "b", "!!!!!b", "! ! ! ! ! a"},
		{"!!a", "a", "!!!b", "! ! ! ! ! b"},
		{"!!a", "a", "!!!!b", ""},
	} {
		e, ok := impl.ReadExpr(c.e)
		by, fine := impl.ReadExpr(c.by)
		put, good := impl.PutVar(e, c.name, by)
		text, _ := impl.ExprText(put)
		if !ok || !fine || good != (c.want != "") || text != c.want {
			t.Errorf("PutVar(%q, %q, %q) = %q, %v", c.e, c.name, c.by, text, good)
		}
		checkPut(t, e, c.name, by)
	}
}

func TestPutVarLimits(t *testing.T) {
	a, b, x := variable("a"), variable("b"), variable("x")
	two := plus(a, b)
	for n := 1; n <= 31; n++ {
		checkPut(t, withParts(n), "a", not(x))
		checkPut(t, two, "a", withParts(n))
		checkPut(t, two, "c", withParts(n))
		checkPut(t, plus(a, a), "a", withParts(n))
		checkPut(t, call("f", a, b, a), "a", withParts(n))
	}
	for parts, want := range map[int]bool{27: true, 28: true, 29: false} { // two has two parts beside a
		if _, ok := impl.PutVar(two, "a", withParts(parts)); ok != want {
			t.Errorf("PutVar of %d parts is %v", parts, ok)
		}
	}
	for deep, want := range map[int]bool{4: true, 5: true, 6: false} {
		if _, ok := impl.PutVar(two, "b", nots(11, deep-1)); ok != want {
			t.Errorf("PutVar of what is %d deep is %v", deep, ok)
		}
	}
}

func TestPutVarRandom(t *testing.T) {
	rnd := rand.New(rand.NewSource(6))
	for range 30000 {
		e, by := someExpr(rnd, 1+rnd.Intn(5)), someExpr(rnd, 1+rnd.Intn(3))
		checkPut(t, e, []string{"a", "b", "f", "xyz", "q", ""}[rnd.Intn(6)], by)
	}
}

func TestSameExpr(t *testing.T) {
	rnd := rand.New(rand.NewSource(7))
	list := append(shapes(), impl.Expr{}, impl.Expr{Op: 99, N: -3, Name: "what", Kids: []impl.Expr{{}, {}}})
	for range 200 {
		list = append(list, someExpr(rnd, 1+rnd.Intn(5)))
	}
	for _, a := range list {
		for _, b := range list {
			if got := impl.SameExpr(a, plainExpr(b)); got != equalExprs(a, b) {
				t.Fatalf("SameExpr(%v, %v) is %v", a, b, got)
			}
		}
		changed := plainExpr(a)
		parts := partsOf(&changed)
		for _, part := range parts {
			kept := *part
			for _, other := range changes(kept) {
				*part = other
				if got := impl.SameExpr(a, changed); got != equalExprs(a, changed) || got != impl.SameExpr(changed, a) {
					t.Fatalf("SameExpr(%v, %v) is %v", a, changed, got)
				}
			}
			*part = kept
		}
	}
	if !impl.SameExpr(impl.Expr{Kids: []impl.Expr{}}, impl.Expr{Kids: nil}) || !impl.SameExpr(num(1), impl.Expr{Op: 1, N: 1, Kids: make([]impl.Expr, 0, 5)}) {
		t.Error("an empty list differs from none")
	}
}

// TestSameExprParts has lists that lie in one memory, but are not as long, or hold other Kids behind the first ones.
func TestSameExprParts(t *testing.T) {
	kids := []impl.Expr{num(1), num(2), num(1), num(2), num(1), num(3)}
	for i := range kids {
		for j := i; j <= len(kids); j++ {
			for k := range kids {
				for l := k; l <= len(kids); l++ {
					a := op(3, impl.Expr{Op: 20, Kids: kids[i:j]}, impl.Expr{Op: 20, Kids: kids[:2]})
					b := op(3, impl.Expr{Op: 20, Kids: kids[k:l]}, impl.Expr{Op: 20, Kids: kids[2:4]})
					if got := impl.SameExpr(a, b); got != equalExprs(a, b) {
						t.Fatalf("SameExpr(%v, %v) is %v", a, b, got)
					}
				}
			}
		}
	}
}

// endless is an expression whose Kid is the expression itself, at the end of n parts.
func endless(n int, o int) impl.Expr {
	lists := make([][]impl.Expr, n)
	for i := range lists {
		lists[i] = make([]impl.Expr, 1)
	}
	for i := range lists {
		lists[i][0] = impl.Expr{Op: 11, Kids: lists[(i+1)%n]}
	}
	lists[0][0].Op = o
	return lists[0][0]
}

func TestExprsThatHoldThemselves(t *testing.T) {
	one, three := endless(1, 11), endless(3, 11)
	other := endless(3, 12)
	for _, e := range []impl.Expr{one, three, other, plus(one, num(1))} {
		if _, ok := impl.ExprText(e); ok || impl.ExprValid(e) || impl.ExprParts(e) != 0 || impl.ExprDeep(e) != 0 || impl.VarsOf(e) != nil || impl.CallsIn(e) != nil {
			t.Error("an endless expression is valid")
		}
		if _, ok := impl.PutVar(e, "a", num(1)); ok {
			t.Error("PutVar into an endless expression is true")
		}
		if _, ok := impl.PutVar(variable("a"), "b", e); ok {
			t.Error("PutVar of an endless expression is true")
		}
	}
	if !impl.SameExpr(one, one) || !impl.SameExpr(one, three) || !impl.SameExpr(endless(4, 11), endless(6, 11)) || !impl.SameExpr(other, endless(3, 12)) {
		t.Error("SameExpr of equal endless expressions is false")
	}
	if impl.SameExpr(one, other) || impl.SameExpr(other, endless(2, 12)) || impl.SameExpr(one, nots(11, 50)) {
		t.Error("SameExpr of other endless expressions is true")
	}
}

func TestExprsThatAreGreat(t *testing.T) {
	long, again := nots(11, 300000), nots(11, 300000)
	wide := call("f", make([]impl.Expr, 300000)...)
	shared, twin := variable("a"), variable("a")
	for range 100 {
		shared, twin = plus(shared, shared), plus(twin, twin)
	}
	for _, e := range []impl.Expr{long, wide, shared} {
		if _, ok := impl.ExprText(e); ok || impl.ExprValid(e) || impl.ExprParts(e) != 0 || impl.ExprDeep(e) != 0 || impl.VarsOf(e) != nil || impl.CallsIn(e) != nil {
			t.Error("a great expression is valid")
		}
		if _, ok := impl.PutVar(e, "a", num(1)); ok {
			t.Error("PutVar into a great expression is true")
		}
	}
	if !impl.SameExpr(long, again) || !impl.SameExpr(shared, twin) || impl.SameExpr(long, not(again)) || impl.SameExpr(shared, plus(twin, twin)) {
		t.Error("SameExpr of great expressions")
	}
	if !impl.SameExpr(wide, call("f", make([]impl.Expr, 300000)...)) || impl.SameExpr(wide, call("f", make([]impl.Expr, 300001)...)) {
		t.Error("SameExpr of wide expressions")
	}
}

func TestExprResultsAreTheirOwn(t *testing.T) {
	e := plus(variable("a"), op(impl.ExprMul, variable("a"), num(2)))
	by := call("f", num(1), num(2), not(num(3)))
	put, ok := impl.PutVar(e, "a", by)
	if !ok {
		t.Fatal("PutVar is false")
	}
	want := plainExpr(put)
	spoil(put.Kids[0])
	if !equalExprs(put.Kids[1], want.Kids[1]) {
		t.Errorf("two places share memory: %v", put)
	}
	same, ok := impl.PutVar(e, "z", by)
	if spoil(same); !ok || !equalExprs(e, plus(variable("a"), op(impl.ExprMul, variable("a"), num(2)))) {
		t.Errorf("PutVar that puts nothing shares memory: %v", e)
	}
	first, _ := impl.ReadExpr("f(a,!b,c+1)")
	spoil(first)
	if again, ok := impl.ReadExpr("f(a,!b,c+1)"); !ok || !equalExprs(again, call("f", variable("a"), not(variable("b")), plus(variable("c"), num(1)))) {
		t.Errorf("ReadExpr keeps what is written to its result: %v", again)
	}
	names := impl.VarsOf(e)
	names[0] = "q"
	_ = append(names[:0], "q", "q")
	if again := impl.VarsOf(e); !slices.Equal(again, []string{"a"}) {
		t.Errorf("VarsOf keeps what is written to its result: %q", again)
	}
}

// TestExprsLeaveMemoryAlone has Kids with more memory behind them, which is not to be read or written.
func TestExprsLeaveMemoryAlone(t *testing.T) {
	memory := []impl.Expr{variable("a"), num(1), variable("z"), call("z")}
	before := slices.Clone(memory)
	e := impl.Expr{Op: impl.ExprAdd, Kids: memory[:2]}
	f := impl.Expr{Op: impl.ExprCall, Name: "f", Kids: memory[:1]}
	checkExpr(t, e)
	checkExpr(t, f)
	checkPut(t, e, "a", f)
	checkPut(t, f, "a", e)
	checkPut(t, f, "z", f)
	if !reflect.DeepEqual(memory, before) {
		t.Errorf("memory became %v", memory)
	}
}
