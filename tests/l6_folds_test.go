package tests

import (
	"fmt"
	"math/rand"
	"reflect"
	"slices"
	"strconv"
	"strings"
	"testing"

	"loop.example/wholeway/impl"
)

// The folds of the document's chapter 6, told a second time and in another way than the program tells them: on texts in
// which each op stands behind its Kids. The word of a call is its Name, `#` and how many Kids it has.

// behind is the text of an expression in which each op stands behind its Kids.
func behind(e impl.Expr) string {
	text := ""
	for _, kid := range e.Kids {
		text += behind(kid) + " "
	}
	switch e.Op {
	case 1:
		return strconv.Itoa(e.N)
	case 2:
		return e.Name
	case 13:
		return text + e.Name + "#" + strconv.Itoa(len(e.Kids))
	}
	return text + twoSigns[e.Op] + oneSigns[e.Op]
}

// kidsOfWord is how many Kids stand ahead of a word.
func kidsOfWord(w string) int {
	switch _, kids, isCall := strings.Cut(w, "#"); {
	case isCall:
		return int(kids[0] - '0')
	case opOf(twoSigns, w) > 0:
		return 2
	case opOf(oneSigns, w) > 0:
		return 1
	}
	return 0
}

// overWords makes something of each word of such a text, and of what has been made of its Kids.
func overWords[T any](text string, made func(w string, kids []T) T) T {
	var list []T
	for _, w := range strings.Fields(text) {
		from := len(list) - kidsOfWord(w)
		kids := slices.Clone(list[from:])
		list = append(list[:from], made(w, kids))
	}
	return list[0]
}

// treeOfWord is the expression of a word and its Kids.
func treeOfWord(w string, kids []impl.Expr) impl.Expr {
	s, _, isCall := strings.Cut(w, "#")
	switch {
	case isCall:
		return call(s, kids...)
	case len(kids) > 0:
		return op(max(opOf(twoSigns, w), opOf(oneSigns, w)), kids...)
	case byteForm.MatchString(w):
		n, _ := strconv.Atoi(w)
		return num(n)
	}
	return variable(w)
}

// safeWords tells whether such a text has no word that may do more than have a value.
func safeWords(text string) bool {
	words := strings.Fields(text)
	for i, w := range words {
		if w == "@" || strings.Contains(w, "#") {
			return false
		}
		if (w == "/" || w == "%") && (words[i-1] == "0" || !byteForm.MatchString(words[i-1])) {
			return false
		}
	}
	return true
}

// foldedWord is the text of a word and its Kids, of which the texts have been folded.
func foldedWord(w string, kids []string) string {
	text := strings.Join(append(slices.Clone(kids), w), " ")
	if strings.Contains(w, "#") || w == "@" || len(kids) == 0 {
		return text
	}
	a, b := kids[0], kids[len(kids)-1]
	left, leftWrong := strconv.Atoi(a)
	right, rightWrong := strconv.Atoi(b)
	if w == "!" && leftWrong == nil {
		w, right = "=", 0
	}
	if v, fine := between(w, left, right); w != "!" && leftWrong == nil && rightWrong == nil && fine {
		return strconv.Itoa(v)
	}
	switch {
	case w == "!" && strings.HasSuffix(a, " ! !"):
		return strings.TrimSuffix(a, " !")
	case w == "!":
	case a+w == "0&", w+b == "*0" && safeWords(a), a+w == "0*" && safeWords(b):
		return "0"
	case w+b == "+0", w+b == "-0", w+b == "*1", w+b == "/1":
		return a
	case a+w == "0+", a+w == "1*":
		return b
	}
	return text
}

// wantFold is what FoldExpr of a valid expression should return.
func wantFold(e impl.Expr) impl.Expr {
	return overWords(overWords(behind(e), foldedWord), treeOfWord)
}

// foldArgs folds all Args of a block, and of all in it.
func foldArgs(list []impl.Stmt) {
	for _, s := range list {
		for i := range s.Args {
			s.Args[i] = wantFold(s.Args[i])
		}
		foldArgs(s.Body)
		foldArgs(s.Else)
	}
}

// wantFoldProgram is what FoldProgram should return of a program with which nothing is wrong.
func wantFoldProgram(p impl.Program) impl.Program {
	folded := plainProgram(p)
	for _, f := range folded.Fns {
		foldArgs(f.Body)
	}
	return folded
}

// closing is the place of the bracket that ends the block in which a place of words is.
func closing(words []string, i int) int {
	for open := 1; ; i++ {
		switch words[i] {
		case "{":
			open++
		case "}":
			open--
		}
		if open == 0 {
			return i
		}
	}
}

// tooMany is the place of the first words of a program that are to be cut out, and the one behind them; two places that
// are alike if there are none.
func tooMany(words []string) (int, int) {
	for i, w := range words[:len(words)-2] {
		isNumber := byteForm.MatchString(words[i+1]) && words[i+2] == "{"
		switch {
		case w == "else" && words[i+2] == "}":
			return i, i + 3
		case w == "back":
			from := i + slices.Index(words[i:], ";") + 1
			if to := closing(words, from); to > from {
				return from, to
			}
		case w == "loop" && isNumber && words[i+1] == "0":
			return i, closing(words, i+3) + 1
		case w == "if" && isNumber:
			last := closing(words, i+3)
			if words[i+1] == "0" && last > i+3 {
				return i + 3, last
			}
			if words[i+1] != "0" && words[last+1] == "else" {
				return last + 1, closing(words, last+3) + 1
			}
		}
	}
	return 0, 0
}

// wantCutWords are the words of a program that has been cut, from the outside to the inside.
func wantCutWords(p impl.Program) string {
	words := strings.Fields(wantWords(p))
	for {
		from, to := tooMany(words)
		if from == to {
			return strings.Join(words, " ")
		}
		words = slices.Delete(words, from, to)
	}
}

// programOf is the program of words, however many these are.
func programOf(words string) impl.Program {
	var p impl.Program
	for text := words + " "; text != ""; {
		found := fnForm.FindStringSubmatch(text)
		f := impl.Fn{Name: found[1], Params: strings.Fields(strings.ReplaceAll(found[2], ",", " "))}
		f.Body, text, _ = wantBlock(text[len(found[0]):])
		p.Fns = append(p.Fns, f)
	}
	return p
}

// wantSimpler is what SimplerProgram should return of a program with which nothing is wrong.
func wantSimpler(p impl.Program) impl.Program {
	for {
		next := programOf(wantCutWords(wantFoldProgram(p)))
		if equalPrograms(next, p) {
			return p
		}
		p = next
	}
}

// sharesWith tells whether results have memory in common, with each other or with what was given, which may well have the
// same memory in several of its lists.
func sharesWith(given any, results ...any) bool {
	made := memoryIn(results...)
	for _, a := range memoryIn(given) {
		for _, b := range made {
			if a[0] < b[1] && b[0] < a[1] {
				return true
			}
		}
	}
	return shareMemory(results...)
}

// checkFold compares SafeExpr and FoldExpr of an expression, valid or not, with what they should return, and checks
// promise 6 on it. It reports whether it is valid, and whether the folded one differs.
func checkFold(t *testing.T, e impl.Expr) (valid bool, folds bool) {
	t.Helper()
	before := plainExpr(e)
	valid = wantExprValid(e)
	var want impl.Expr
	if valid {
		want = wantFold(e)
	}
	if got := impl.SafeExpr(e); got != (valid && safeWords(behind(e))) {
		t.Fatalf("SafeExpr(%v) is %v", e, got)
	}
	got, ok := impl.FoldExpr(e)
	if ok != valid || !equalExprs(got, want) {
		t.Fatalf("FoldExpr(%v) = %v, %v; want %v, %v", e, got, ok, want, valid)
	}
	if !valid {
		return false, false
	}
	if !wantExprValid(got) || sharesWith(e, got) {
		t.Fatalf("FoldExpr(%v) = %v, which is not valid, or shares memory", e, got)
	}
	checkSameValue(t, e, got)
	spoil(got)
	if !equalExprs(e, before) {
		t.Fatalf("%v became %v", before, e)
	}
	return true, !equalExprs(e, want)
}

// checkSameValue reckons an expression and its folded form, if they have values at all, of many numbers.
func checkSameValue(t *testing.T, e impl.Expr, folded impl.Expr) {
	t.Helper()
	names := append(impl.VarsOf(e), "zzzz")
	for _, numbers := range [][]int{{0, 0, 0}, {1, 1, 1}, {1, 2, 3}, {255, 16, 7}, {0, 1, 255}, {2, 0, 128}} {
		values := slices.Repeat(numbers, len(names)/3+1)[:len(names)]
		value, end := impl.EvalExpr(e, names, values)
		got, gotEnd := impl.EvalExpr(folded, names, values)
		if end >= 0 && (got != value || gotEnd != end) {
			t.Fatalf("the value of %v is %d, %d with %q, %v; that of %v is %d, %d", e, value, end, names, values, folded, got, gotEnd)
		}
		if impl.SafeExpr(e) && (end != 0 || gotEnd != 0) {
			t.Fatalf("%v is safe, but its end is %d", e, end)
		}
	}
}

// checkFolds compares all that the program makes of a program, valid or not, with what it should make, and checks promise
// 6 on it. It reports whether nothing is wrong with it, and whether it changes if it is folded, and if it is cut.
func checkFolds(t *testing.T, p impl.Program) (fine bool, folds bool, cuts bool) {
	t.Helper()
	before := plainProgram(p)
	folded, foldOk := impl.FoldProgram(p)
	cut, cutOk := impl.CutProgram(p)
	simpler, simplerOk := impl.SimplerProgram(p)
	isSimple := impl.IsSimple(p)
	if !equalPrograms(p, before) {
		t.Fatalf("%v became %v", before, p)
	}
	if scanOf(p).code != 0 {
		if foldOk || cutOk || simplerOk || isSimple || len(folded.Fns)+len(cut.Fns)+len(simpler.Fns) > 0 {
			t.Fatalf("%v, with which something is wrong, is folded to %v, cut to %v, and both to %v", p, folded, cut, simpler)
		}
		return false, false, false
	}
	if want := wantFoldProgram(p); !foldOk || !equalPrograms(folded, want) {
		t.Fatalf("FoldProgram(%v) = %v, %v; want %v", p, folded, foldOk, want)
	}
	if want := programOf(wantCutWords(p)); !cutOk || !equalPrograms(cut, want) {
		t.Fatalf("CutProgram(%v) = %v, %v; want %v", p, cut, cutOk, want)
	}
	want := wantSimpler(p)
	if !simplerOk || !equalPrograms(simpler, want) || isSimple != equalPrograms(p, want) {
		t.Fatalf("SimplerProgram(%v) = %v, %v, IsSimple is %v; want %v", p, simpler, simplerOk, isSimple, want)
	}
	checkSimple(t, simpler)
	if sharesWith(p, folded, cut, simpler) {
		t.Fatalf("%v, %v, %v and %v share memory", p, folded, cut, simpler)
	}
	checkSameRuns(t, p, folded, cut, simpler)
	return true, !equalPrograms(p, folded), !equalPrograms(p, cut)
}

// checkSimple checks that nothing changes of a program that SimplerProgram has returned.
func checkSimple(t *testing.T, p impl.Program) {
	t.Helper()
	folded, foldOk := impl.FoldProgram(p)
	cut, cutOk := impl.CutProgram(p)
	again, ok := impl.SimplerProgram(p)
	if !foldOk || !cutOk || !ok || !impl.IsSimple(p) || !equalPrograms(folded, p) || !equalPrograms(cut, p) || !equalPrograms(again, p) {
		t.Fatalf("the simple program %v is folded to %v, cut to %v, and both to %v", p, folded, cut, again)
	}
}

// checkSameRuns runs a program beside what has been made of it. Folding takes no statement away, so that it changes
// nothing with any fuel; what has been cut may come further with the same fuel.
func checkSameRuns(t *testing.T, p impl.Program, folded impl.Program, fewer ...impl.Program) {
	t.Helper()
	inputs := impl.InputsFor(p)
	for _, list := range [][]int{{2, 0, 128}, {0, 3, 1}} {
		inputs = append(inputs, list[:len(inputs[0])])
	}
	for _, in := range inputs {
		need := impl.FuelOf(p, in)
		for _, fuel := range []int{0, 1, 2, 3, 5, 8, 13, 40, need - 1, need, need + 1, 4000} {
			want, fine := impl.RunProgram(p, in, fuel)
			if got, ok := impl.RunProgram(folded, in, fuel); ok != fine || !equalOutcomes(got, want) {
				t.Fatalf("RunProgram(%v, %v, %d) = %v, %v; folded to %v it is %v, %v", p, in, fuel, want, fine, folded, got, ok)
			}
			for _, q := range fewer {
				got, ok := impl.RunProgram(q, in, fuel)
				begun := len(want.Said)
				same := equalOutcomes(got, want) || want.End == 3 && len(got.Said) >= begun && slices.Equal(got.Said[:begun], want.Said)
				if ok != fine || !same {
					t.Fatalf("RunProgram(%v, %v, %d) = %v, %v; turned to %v it is %v, %v", p, in, fuel, want, fine, q, got, ok)
				}
			}
		}
		for _, q := range fewer {
			if fuel := impl.FuelOf(q, in); need >= 0 && (fuel < 0 || fuel > need) {
				t.Fatalf("%v needs the fuel %d; turned to %v it needs %d", p, need, q, fuel)
			}
		}
	}
}

// foldCase is an expression and its folded form, told by hand.
type foldCase struct{ s, want string }

func checkFoldCases(t *testing.T, list []foldCase) {
	t.Helper()
	for _, c := range list {
		e, fine := wantRead(c.s)
		x, ok := impl.FoldExpr(e)
		if text, _ := impl.ExprText(x); !fine || !ok || text != spaced(c.want) {
			t.Errorf("FoldExpr(%q) = %q, %v; want %q", c.s, text, ok, c.want)
		}
		checkFold(t, e)
		checkFold(t, op(12, e))
		checkFold(t, call("g", e, e))
	}
}

func TestFoldNumbers(t *testing.T) {
	checkFoldCases(t, []foldCase{
		{"7", "7"}, {"a", "a"}, {"f()", "f ( )"}, {"f(1)", "f ( 1 )"}, {"f(1,2)", "f ( 1 , 2 )"}, {"@3", "@ 3"}, {"@@3", "@ @ 3"},
		{"1+2", "3"}, {"200+100", "44"}, {"255+1", "0"}, {"255+255", "254"}, {"5-3", "2"}, {"3-5", "254"}, {"0-1", "255"}, {"0-255", "1"}, {"16*17", "16"}, {"255*255", "1"}, {"16*16", "0"},
		{"7/2", "3"}, {"3/5", "0"}, {"255/255", "1"}, {"7%2", "1"}, {"3%5", "3"}, {"6%3", "0"}, {"0/3", "0"}, {"0%3", "0"}, {"4<5", "1"}, {"5<5", "0"}, {"5<4", "0"}, {"5=5", "1"}, {"5=4", "0"}, {"0=0", "1"},
		{"2&3", "1"}, {"2&0", "0"}, {"0&2", "0"}, {"0&0", "0"}, {"1&1", "1"}, {"255&128", "1"}, {"!0", "1"}, {"!1", "0"}, {"!255", "0"}, {"!!0", "0"}, {"!!7", "1"}, {"!!!7", "0"}, {"!!!!0", "0"},
		{"1/0", "1 / 0"}, {"0/0", "0 / 0"}, {"255/0", "255 / 0"}, {"1%0", "1 % 0"}, {"0%0", "0 % 0"}, {"(1/0)+2", "1 / 0 + 2"}, {"2&1/0", "2 & 1 / 0"}, {"1/0&2", "1 / 0 & 2"}, {"!(1/0)", "! ( 1 / 0 )"}, {"1/0=1/0", "1 / 0 = 1 / 0"},
		{"a+1", "a + 1"}, {"1+a", "1 + a"}, {"a+a", "a + a"}, {"a-a", "a - a"}, {"a=a", "a = a"}, {"a<a", "a < a"}, {"a&a", "a & a"}, {"a/a", "a / a"}, {"a%a", "a % a"}, {"a+(1+2)", "a + 3"}, {"a+1+2", "a + 1 + 2"}, {"1+2+a", "3 + a"},
		{"1+2*3", "7"}, {"(1+2)*3", "9"}, {"10-3-2", "5"}, {"7/(3-3)", "7 / 0"}, {"7%(3-3)", "7 % 0"}, {"7/(3-2)", "7"}, {"!(2-2)", "1"}, {"@(1+2)", "@ 3"}, {"@(20)", "@ 20"}, {"f(1+2,3-4,!5)", "f ( 3 , 255 , 0 )"}, {"f(f(1+1)+(2+2))", "f ( f ( 2 ) + 4 )"}, {"f(g(1/0))", "f ( g ( 1 / 0 ) )"},
	})
	for o := 3; o <= 10; o++ {
		for n := range 256 * 256 {
			a, b := n/256, n%256
			want := op(o, num(a), num(b))
			if v, fine := between(twoSigns[o], a, b); fine {
				want = num(v)
			}
			if got, ok := impl.FoldExpr(op(o, num(a), num(b))); !ok || got.Op != want.Op || got.N != want.N || len(got.Kids) != len(want.Kids) {
				t.Fatalf("FoldExpr(%d %s %d) = %v, %v", a, twoSigns[o], b, got, ok)
			}
		}
	}
	for n := range 256 {
		checkFold(t, not(num(n)))
		checkFold(t, op(12, num(n)))
		checkFold(t, call("f", num(n)))
	}
}

func TestFoldAnds(t *testing.T) {
	checkFoldCases(t, []foldCase{
		{"0&a", "0"}, {"0&f()", "0"}, {"0&@99", "0"}, {"0&1/0", "0"}, {"0&a/0", "0"}, {"0&f(g(1))", "0"}, {"0&a&f()", "0"}, {"0&(a&b)", "0"}, {"!1&f()", "0"}, {"(2-2)&f()", "0"}, {"(a*0)&f()", "0"}, {"0&a+b", "0"}, {"(0&f())+1", "1"},
		{"a&0", "a & 0"}, {"f()&0", "f ( ) & 0"}, {"1&a", "1 & a"}, {"2&a", "2 & a"}, {"255&a", "255 & a"}, {"a&1", "a & 1"}, {"a&2", "a & 2"}, {"1&f()", "1 & f ( )"}, {"a&0&b", "a & 0 & b"}, {"a&(0&b)", "a & 0"}, {"!0&a", "1 & a"}, {"1/0&0", "1 / 0 & 0"}, {"@0&a", "@ 0 & a"}, {"b&a", "b & a"}, {"@(0&a)", "@ 0"},
	})
}

func TestFoldIdle(t *testing.T) {
	var list []foldCase
	for _, e := range []string{"a", "f ( )", "f ( a , 2 )", "@ a", "! a", "a & b", "a < 2", "3 / a", "1 / 0", "a * b", "@ 99"} {
		for _, s := range []string{"(?)+0", "0+(?)", "(?)-0", "(?)*1", "1*(?)", "(?)/1", "(?)+(2-2)", "(2-2)+(?)", "(?)-!7", "(?)*!0", "(3-2)*(?)", "(?)/(5/3)", "1*(0+((?)-0)/1)"} {
			list = append(list, foldCase{strings.ReplaceAll(s, "?", e), e})
		}
		for _, s := range []string{"0-(?)", "1/(?)", "(?)/0", "(?)%1", "0/(?)", "0%(?)", "1%(?)", "(?)%0", "1+(?)", "(?)+1", "(?)-1", "1-(?)", "(?)*2", "2*(?)", "(?)/2", "(?)<0", "0<(?)", "(?)=0", "0=(?)", "1=(?)", "(?)=1", "(?)&0", "(?)&1", "1&(?)"} {
			x, _ := wantRead(strings.ReplaceAll(s, "?", e))
			list = append(list, foldCase{wantExprText(x), wantExprText(x)})
		}
	}
	checkFoldCases(t, append(list, []foldCase{
		{"a+0+0", "a"}, {"0+0+a", "a"}, {"0+a+0", "a"}, {"a*1*1", "a"}, {"a/1/1", "a"}, {"a-0-0", "a"}, {"a-(0-0)", "a"}, {"0-a-0", "0 - a"}, {"(a+0)*(b/1)", "a * b"}, {"f(a+0,1*b)", "f ( a , b )"}, {"(f(a)+0)*1", "f ( a )"}, {"@(a+0)", "@ a"}, {"1*1/0", "1 / 0"}, {"0+1/0", "1 / 0"},
		{"0-0", "0"}, {"1/1", "1"}, {"0+0", "0"}, {"1*1", "1"}, {"5+0", "5"}, {"0+5", "5"}, {"5-0", "5"}, {"0-5", "251"}, {"5*1", "5"}, {"5/1", "5"}, {"1/5", "0"}, {"5%1", "0"},
	}...))
}

func TestFoldZeros(t *testing.T) {
	var list []foldCase
	for _, e := range []string{"a", "! a", "( a + b )", "( a & b )", "a / 2", "a % 255", "( a / 1 )", "( a / ( 3 - 1 ) )", "( 0 & f ( ) )", "( 0 & 1 / 0 )", "( a + 7 % 3 )", "! ! ! a", "( a < b )", "( a = 2 ) / 7", "7", "0", "a * b"} {
		list = append(list, foldCase{"( " + e + " ) * 0", "0"}, foldCase{"0 * ( " + e + " )", "0"}, foldCase{"( " + e + " ) * ( 7 - 7 )", "0"}, foldCase{"@ ( !7 * ( " + e + " ) )", "@ 0"})
	}
	for _, e := range []string{"f ( )", "f ( a )", "@ 0", "@ a", "a / b", "a / 0", "a % 0", "a % b", "7 / 0", "7 / a", "7 % a", "a / ( a / b )", "a / @ 1", "a / f ( )", "! f ( )", "( a & f ( ) )", "( a & 1 / 0 )", "( a + @ 2 )", "a + 1 / b", "( a / 2 ) % c", "! ( a / 0 )", "( a / b ) / 2", "2 / ( a + 1 )", "f ( ) * 0", "0 * f ( )"} {
		x, _ := wantRead("( " + e + " ) * 0")
		y, _ := wantRead("0 * ( " + e + " )")
		list = append(list, foldCase{wantExprText(x), wantExprText(x)}, foldCase{wantExprText(y), wantExprText(y)})
	}
	checkFoldCases(t, append(list, []foldCase{
		{"a*0*f()", "0 * f ( )"}, {"a*(0*b)", "0"}, {"a*0+b", "b"}, {"0*b+a", "a"}, {"a*(3-2)+0*b", "a"}, {"b-a*0", "b"}, {"(a*0)&f()", "0"}, {"a/(b*0)", "a / 0"}, {"0*(a/(b*0))", "0 * ( a / 0 )"}, {"0*(a/(1+b*0))", "0"}, {"a*0/(b*0)", "0 / 0"}, {"!(a*0)", "1"}, {"f(a*0)", "f ( 0 )"}, {"0*f(0*a)", "0 * f ( 0 )"}, {"a*!0", "a"}, {"a*10", "a * 10"}, {"10*a", "10 * a"}, {"a+a*0", "a"},
	}...))
}

func TestFoldNots(t *testing.T) {
	checkFoldCases(t, []foldCase{
		{"!a", "! a"}, {"!!a", "! ! a"}, {"!!!a", "! a"}, {"!!!!a", "! ! a"}, {"!!!!!a", "! a"}, {"!!f()", "! ! f ( )"}, {"!!!f()", "! f ( )"}, {"!!!@a", "! @ a"}, {"!@!!a", "! @ ! ! a"}, {"!!@!a", "! ! @ ! a"}, {"@!!!a", "@ ! a"}, {"!!!(a+b)", "! ( a + b )"}, {"!!!(1/0)", "! ( 1 / 0 )"}, {"!!!(a&0)", "! ( a & 0 )"},
		{"!(!!a+0)", "! a"}, {"!!(0+!a)", "! a"}, {"!(1*!(!a/1))", "! a"}, {"!!!(a*0)", "1"}, {"!!(!!!a)", "! a"}, {"!!(!a+1)", "! ! ( ! a + 1 )"}, {"!!!a+!!!b", "! a + ! b"}, {"f(!!!a,!!!!b,!c)", "f ( ! a , ! ! b , ! c )"}, {"!(!!a&b)", "! ( ! ! a & b )"}, {"!!!f(!a)", "! f ( ! a )"}, {"!f(!!!a)", "! f ( ! a )"}, {"!!(!@a)", "! @ a"}, {"!!!7", "0"}, {"!!!!!0", "1"}, {"!f(!!a)", "! f ( ! ! a )"},
	})
	for _, leaf := range []impl.Expr{num(0), num(1), variable("a"), call("f"), op(12, num(0)), op(6, num(1), num(0))} {
		e := leaf
		for n := 1; n <= 5; n++ {
			e = not(e)
			x, ok := impl.FoldExpr(e)
			if got, want := strings.Count(behind(x), "!"), 2-n%2; leaf.Op != 1 && ok && got != want {
				t.Errorf("of %d ! ahead of %v there are left %d", n, leaf, got)
			}
			checkFold(t, e)
		}
	}
}

func TestSafeExprs(t *testing.T) {
	for s, want := range map[string]bool{
		"0": true, "255": true, "a": true, "a+b": true, "a-1": true, "a*b": true, "a<b": true, "a=b": true, "a&b": true, "!a": true, "!!!a": true, "a/2+b": true, "a/1": true, "a%255": true, "7/7": true, "0/3": true, "a/2/3": true, "a/2%3": true, "(a+b)/2": true, "(a%3+1)*(b/4)": true, "0&a/2": true,
		"a/0": false, "a%0": false, "7/0": false, "0%0": false, "a/b": false, "a%b": false, "7/a": false, "a/a": false, "a/(1+1)": false, "a%(2*3)": false, "a/!0": false, "a/(b/2)": false, "2/0/3": false, "(a/b)/2": false, "2/3/a": false, "a%@1": false, "2+3*(4-5/a)": false, "0&a/0": false, "0&a/b": false, "(a/0)*0": false, "!(a/b)": false,
		"@a": false, "@0": false, "@@3": false, "!@a": false, "a+@b": false, "0&@a": false, "0*@a": false, "f()": false, "f(a)": false, "f(1,2,3)": false, "!f()": false, "a+f()": false, "f()/2": false, "0&f()": false, "1*(2+(3-f()))": false, "@(a/2+b)": false,
	} {
		e, ok := wantRead(s)
		if got := impl.SafeExpr(e); !ok || got != want {
			t.Errorf("SafeExpr(%q) is %v", s, got)
		}
		checkFold(t, e)
	}
}

// leafExprs are expressions of one or two parts, with the numbers that matter.
func leafExprs() []impl.Expr {
	return []impl.Expr{num(0), num(1), num(2), num(255), variable("a"), variable("b"), op(12, num(3)), call("f"), call("f", num(0)), not(variable("a")), op(6, num(2), num(0))}
}

func TestFoldOfSmallExprs(t *testing.T) {
	leaves := leafExprs()
	inner := slices.Clone(leaves)
	for _, x := range leaves {
		inner = append(inner, not(x), not(not(x)), op(12, x), call("g", x, num(1)))
		for _, y := range leaves {
			for o := 3; o <= 10; o++ {
				inner = append(inner, op(o, x, y))
			}
		}
	}
	changed, count := 0, 0
	check := func(e impl.Expr) {
		if _, folds := checkFold(t, e); folds {
			changed++
		}
		count++
	}
	for i, e := range inner {
		check(e)
		check(not(e))
		check(not(not(e)))
		check(op(12, e))
		check(call("f", e, e))
		for o := 3; o <= 10; o++ {
			for _, x := range leaves[:3] {
				check(op(o, e, x))
				check(op(o, x, e))
			}
			check(op(o, e, inner[(i*7+o)%len(inner)]))
		}
	}
	if changed < count/4 || changed > count*9/10 {
		t.Errorf("%d of %d small expressions are changed", changed, count)
	}
}

// dressed is an expression with something around some of its parts that may be folded away.
func dressed(rnd *rand.Rand, e impl.Expr) impl.Expr {
	e = plainExpr(e)
	for i := range e.Kids {
		e.Kids[i] = dressed(rnd, e.Kids[i])
	}
	zero, one := num(0), num(1)
	switch rnd.Intn(30) {
	case 0:
		return plus(e, zero)
	case 1:
		return plus(zero, e)
	case 2:
		return minus(e, zero)
	case 3:
		return op(5, e, one)
	case 4:
		return op(5, one, e)
	case 5:
		return op(6, e, one)
	case 6:
		return op(5, e, zero)
	case 7:
		return op(5, zero, e)
	case 8:
		return op(10, zero, e)
	case 9:
		return op(10, e, zero)
	case 10:
		return not(not(not(e)))
	case 11:
		return not(not(e))
	case 12:
		return minus(zero, e)
	case 13:
		return op(6, e, zero)
	case 14:
		return op(7, e, one)
	}
	return e
}

func TestFoldOfRandomExprs(t *testing.T) {
	rnd := rand.New(rand.NewSource(61))
	m := maker{rnd: rnd, calm: true, fns: []impl.Fn{fn("f", params("a", "b")), fn("g", nil)}, blocks: [][]string{{"a", "b", "c"}}}
	counts := map[[2]bool]int{}
	for i := range 30000 {
		e := m.expr(1 + rnd.Intn(6))
		if i%3 == 0 {
			e = someExpr(rnd, 1+rnd.Intn(7))
		}
		if i%2 == 0 {
			e = dressed(rnd, e)
		}
		valid, folds := checkFold(t, e)
		counts[[2]bool{valid, folds}]++
	}
	for kind, least := range map[[2]bool]int{{false, false}: 2000, {true, false}: 5000, {true, true}: 5000} {
		if counts[kind] < least {
			t.Errorf("of the random expressions %v are valid and folded: %v", counts, kind)
		}
	}
}

// TestFoldOfExprsThatAreWrong has expressions that are not valid, also beside what would be folded away.
func TestFoldOfExprsThatAreWrong(t *testing.T) {
	a := variable("a")
	for i, e := range []impl.Expr{
		{}, num(-1), num(256), variable(""), variable("fn"), variable("abcde"), op(3), op(3, a), op(3, a, num(0), num(0)), op(11), op(12), op(14, a), call(""), call("do"), call("f", a, a, a, a), {Op: 1, N: 3, Name: "a"}, {Op: 2, N: 1, Name: "a"}, {Op: 3, N: 1, Kids: []impl.Expr{a, num(0)}}, {Op: 10, Name: "a", Kids: []impl.Expr{num(0), a}}, {Op: 11, N: 1, Kids: []impl.Expr{num(0)}},
		plus(num(0), impl.Expr{}), op(10, num(0), impl.Expr{}), op(10, num(0), num(256)), op(5, num(0), num(-1)), op(5, impl.Expr{}, num(0)), op(6, num(256), num(1)), nots(11, 6), not(not(not(variable("")))), plus(nots(11, 5), num(0)), op(10, num(0), nots(12, 5)), withParts(31), op(10, num(0), withParts(29)), full(5), endless(1, 11), endless(3, 12), op(10, num(0), endless(2, 11)),
	} {
		x, ok := impl.FoldExpr(e)
		if ok || !reflect.DeepEqual(plainExpr(x), impl.Expr{}) || impl.SafeExpr(e) {
			t.Errorf("the expression %d, which is not valid, is safe, or folded to %v", i, x)
		}
	}
	for _, s := range []string{"a*(3-2)+0*b", "!!!a&f(a+0)", "0&@a/1"} {
		e, _ := wantRead(s)
		for _, part := range partsOf(&e) {
			kept := *part
			for _, wrong := range changes(kept) {
				*part = wrong
				checkFold(t, e)
			}
			*part = kept
		}
	}
	great, shared := nots(11, 300000), a
	for range 100 {
		shared = plus(shared, num(0))
		shared = plus(shared, shared)
	}
	for _, e := range []impl.Expr{great, shared, call("f", make([]impl.Expr, 300000)...)} {
		if _, ok := impl.FoldExpr(e); ok || impl.SafeExpr(e) {
			t.Error("a great expression is folded")
		}
	}
}

// TestFoldOfMostExprs has expressions that are as great as they may be.
func TestFoldOfMostExprs(t *testing.T) {
	for n := 1; n <= 31; n++ {
		checkFold(t, withParts(n))
		checkFold(t, withCalls(n))
	}
	for o := 3; o <= 12; o++ {
		for n := range 7 {
			checkFold(t, row(o, n, false))
			checkFold(t, row(o, n, true))
			checkFold(t, nots(11+o%2, n))
		}
	}
	checkFold(t, full(4))
	if x, ok := impl.FoldExpr(full(4)); !ok || !equalExprs(x, num(8)) {
		t.Errorf("the sum of eight 1 is folded to %v, %v", x, ok)
	}
}

// turnCase is a program and what becomes of it, told by hand: the texts if it is folded, if it is cut, and if both are
// done; the empty one for what is the program itself.
type turnCase struct{ s, fold, cut, simpler string }

func checkTurns(t *testing.T, list []turnCase) {
	t.Helper()
	for _, c := range list {
		p := read(t, c.s)
		given := wantWords(p)
		for want, turn := range map[*string]func(impl.Program) (impl.Program, bool){&c.fold: impl.FoldProgram, &c.cut: impl.CutProgram, &c.simpler: impl.SimplerProgram} {
			q, ok := turn(p)
			text, _ := impl.ProgramText(q)
			if *want == "" {
				*want = given
			}
			if !ok || text != *want {
				t.Errorf("%q is turned to %q, %v; want %q", c.s, text, ok, *want)
			}
		}
		if got := impl.IsSimple(p); got != (c.simpler == given) {
			t.Errorf("IsSimple(%q) is %v", c.s, got)
		}
		checkFolds(t, p)
	}
}

func TestFoldPrograms(t *testing.T) {
	checkTurns(t, []turnCase{
		{"fn m(){say 1+2;}", "fn m ( ) { say 3 ; }", "", "fn m ( ) { say 3 ; }"},
		{"fn m(){let a=1+1;a=a+0;say a*1;put a-0,0+a;back a/1;}", "fn m ( ) { let a = 2 ; a = a ; say a ; put a , a ; back a ; }", "", "fn m ( ) { let a = 2 ; a = a ; say a ; put a , a ; back a ; }"},
		{"fn m(a){if a+0{say 1+1;}else{say 2+2;}loop 0+a{a=a-(2-1);}}", "fn m ( a ) { if a { say 2 ; } else { say 4 ; } loop a { a = a - 1 ; } }", "", "fn m ( a ) { if a { say 2 ; } else { say 4 ; } loop a { a = a - 1 ; } }"},
		{"fn f(a,b){back a*0;}fn m(a){do f(a+0,1*2);say f(f(3-1,!a+0),f(1,2)+0)*0;}", "fn f ( a , b ) { back 0 ; } fn m ( a ) { do f ( a , 2 ) ; say f ( f ( 2 , ! a ) , f ( 1 , 2 ) ) * 0 ; }", "", "fn f ( a , b ) { back 0 ; } fn m ( a ) { do f ( a , 2 ) ; say f ( f ( 2 , ! a ) , f ( 1 , 2 ) ) * 0 ; }"},
		{"fn f(){say 1;}fn m(){say 0&f();say f()&0;say f()*0;}", "fn f ( ) { say 1 ; } fn m ( ) { say 0 ; say f ( ) & 0 ; say f ( ) * 0 ; }", "", "fn f ( ) { say 1 ; } fn m ( ) { say 0 ; say f ( ) & 0 ; say f ( ) * 0 ; }"},
		{"fn m(a){say 1/0;say a/0*0;put 99,@99+0;}", "fn m ( a ) { say 1 / 0 ; say a / 0 * 0 ; put 99 , @ 99 ; }", "", "fn m ( a ) { say 1 / 0 ; say a / 0 * 0 ; put 99 , @ 99 ; }"},
		{"fn m(a){if a{if a{if a{say 1+1;}else{say 1+2;}}}else{loop a{back 2+2;}}}", "fn m ( a ) { if a { if a { if a { say 2 ; } else { say 3 ; } } } else { loop a { back 4 ; } } }", "", "fn m ( a ) { if a { if a { if a { say 2 ; } else { say 3 ; } } } else { loop a { back 4 ; } } }"},
		{"fn m(){back 1;say 1+1;}", "fn m ( ) { back 1 ; say 2 ; }", "fn m ( ) { back 1 ; }", "fn m ( ) { back 1 ; }"},
		{"fn m(){loop 0{say 1+1;}}", "fn m ( ) { loop 0 { say 2 ; } }", "fn m ( ) { }", "fn m ( ) { }"},
	})
}

func TestFoldAndCutPrograms(t *testing.T) {
	one := "fn m ( ) { say 1 ; }"
	checkTurns(t, []turnCase{
		// nothing is to be done
		{"fn m(){}", "", "", ""}, {one, "", "", ""}, {"fn m(){back 1;}", "", "", ""}, {"fn m(){say 1;back 1;}", "", "", ""}, {"fn m(a){if a{back 1;}else{back 2;}back 3;}", "", "", ""}, {"fn m(a){loop a{back 1;}say 2;}", "", "", ""}, {"fn m(a){if a{}loop a{}}", "", "", ""}, {"fn m(){loop 1{}}", "", "", ""}, {"fn m(){loop 255{say 1;}say 2;}", "", "", ""}, {"fn m(){if 0{}}", "", "", ""}, {"fn m(){if 1{}}", "", "", ""}, {"fn m(){if 0{}else{say 1;}}", "", "", ""}, {"fn m(){if 2{say 1;}say 2;}", "", "", ""}, {"fn f(a){back a;}fn m(){do f(1);back f(2);}", "", "", ""}, {"fn m(a){loop a&0{say 1;}if 1/0{say 2;}else{say 3;}}", "", "", ""}, {"fn f(){back 1;}fn m(){say 2;}", "", "", ""},
		// behind a StmtBack
		{"fn m(){back 1;say 2;}", "", "fn m ( ) { back 1 ; }", "fn m ( ) { back 1 ; }"},
		{"fn m(){back 1;back 2;back 3;}", "", "fn m ( ) { back 1 ; }", "fn m ( ) { back 1 ; }"},
		{"fn m(){say 1;back 2;say 3;back 4;}", "", "fn m ( ) { say 1 ; back 2 ; }", "fn m ( ) { say 1 ; back 2 ; }"},
		{"fn m(a){back a;let b=1;if b{say a;}loop b{}b=2;}", "", "fn m ( a ) { back a ; }", "fn m ( a ) { back a ; }"},
		{"fn m(a){if a{back 1;say 2;}else{back 3;say 4;}say 5;}", "", "fn m ( a ) { if a { back 1 ; } else { back 3 ; } say 5 ; }", "fn m ( a ) { if a { back 1 ; } else { back 3 ; } say 5 ; }"},
		{"fn m(a){loop a{say 1;back 2;say 3;}say 4;}", "", "fn m ( a ) { loop a { say 1 ; back 2 ; } say 4 ; }", "fn m ( a ) { loop a { say 1 ; back 2 ; } say 4 ; }"},
		{"fn f(a){back a;say 1;}fn g(){back 2;say 3;}fn m(){say 4;back 5;say 6;}", "", "fn f ( a ) { back a ; } fn g ( ) { back 2 ; } fn m ( ) { say 4 ; back 5 ; }", "fn f ( a ) { back a ; } fn g ( ) { back 2 ; } fn m ( ) { say 4 ; back 5 ; }"},
		// a StmtLoop of the number 0
		{"fn m(){loop 0{say 1;}}", "", "fn m ( ) { }", "fn m ( ) { }"}, {"fn m(){loop 0{}}", "", "fn m ( ) { }", "fn m ( ) { }"},
		{"fn m(){say 1;loop 0{back 2;}loop 0{say 3;}say 4;loop 0{}}", "", "fn m ( ) { say 1 ; say 4 ; }", "fn m ( ) { say 1 ; say 4 ; }"},
		{"fn m(a){loop a{loop 0{say 1;}}if a{loop 0{}}else{loop 0{}}if a{}else{loop 0{say 1;}say 2;}}", "", "fn m ( a ) { loop a { } if a { } if a { } else { say 2 ; } }", "fn m ( a ) { loop a { } if a { } if a { } else { say 2 ; } }"},
		{"fn m(){loop 1{loop 2{loop 0{say 3;}}}}", "", "fn m ( ) { loop 1 { loop 2 { } } }", "fn m ( ) { loop 1 { loop 2 { } } }"},
		{"fn m(){loop 1-1{say 1;}loop 0&9{say 2;}}", "fn m ( ) { loop 0 { say 1 ; } loop 0 { say 2 ; } }", "", "fn m ( ) { }"},
		{"fn m(a){loop a*0{say 1;}loop a&0{say 2;}loop @0*0{say 3;}}", "fn m ( a ) { loop 0 { say 1 ; } loop a & 0 { say 2 ; } loop @ 0 * 0 { say 3 ; } }", "", "fn m ( a ) { loop a & 0 { say 2 ; } loop @ 0 * 0 { say 3 ; } }"},
		// a StmtIf of a number
		{"fn m(){if 0{say 1;}}", "", "fn m ( ) { if 0 { } }", "fn m ( ) { if 0 { } }"}, {"fn m(){if 0{say 1;}else{say 2;}}", "", "fn m ( ) { if 0 { } else { say 2 ; } }", "fn m ( ) { if 0 { } else { say 2 ; } }"},
		{"fn m(){if 1{say 1;}else{say 2;}}", "", "fn m ( ) { if 1 { say 1 ; } }", "fn m ( ) { if 1 { say 1 ; } }"}, {"fn m(){if 255{}else{say 2;}}", "", "fn m ( ) { if 255 { } }", "fn m ( ) { if 255 { } }"},
		{"fn m(a){if a{if 0{say 1;}}else{if 9{say 2;}else{say 3;}}}", "", "fn m ( a ) { if a { if 0 { } } else { if 9 { say 2 ; } } }", "fn m ( a ) { if a { if 0 { } } else { if 9 { say 2 ; } } }"},
		{"fn m(a){if a=a{say 1;}else{say 2;}if 2=2{say 3;}else{say 4;}if 2=3{say 5;}else{say 6;}}", "fn m ( a ) { if a = a { say 1 ; } else { say 2 ; } if 1 { say 3 ; } else { say 4 ; } if 0 { say 5 ; } else { say 6 ; } }", "", "fn m ( a ) { if a = a { say 1 ; } else { say 2 ; } if 1 { say 3 ; } if 0 { } else { say 6 ; } }"},
		{"fn m(){if 0{back 1;}say 2;if 1{back 3;}say 4;}", "", "fn m ( ) { if 0 { } say 2 ; if 1 { back 3 ; } say 4 ; }", "fn m ( ) { if 0 { } say 2 ; if 1 { back 3 ; } say 4 ; }"},
		// one in the other
		{"fn m(){if 1{loop 0{say 1;}}else{back 2;say 3;}}", "", "fn m ( ) { if 1 { } }", "fn m ( ) { if 1 { } }"},
		{"fn m(){if 0{back 1;say 2;}else{loop 0{say 3;}}}", "", "fn m ( ) { if 0 { } }", "fn m ( ) { if 0 { } }"},
		{"fn m(){loop 0{loop 0{}back 1;say 2;}say 3;back 4;loop 0{back 5;say 6;}}", "", "fn m ( ) { say 3 ; back 4 ; }", "fn m ( ) { say 3 ; back 4 ; }"},
		{"fn m(a){loop a{if 1{back 1;say 2;}else{say 3;}loop 0{}back 4;say 5;}say 6;}", "", "fn m ( a ) { loop a { if 1 { back 1 ; } back 4 ; } say 6 ; }", "fn m ( a ) { loop a { if 1 { back 1 ; } back 4 ; } say 6 ; }"},
		{"fn m(a){if a{loop a{if 0{say 1;}else{back 1;loop 0{}}}}}", "", "fn m ( a ) { if a { loop a { if 0 { } else { back 1 ; } } } }", "fn m ( a ) { if a { loop a { if 0 { } else { back 1 ; } } } }"},
		{"fn m(){loop 0&1/0{say 1;}if !!!(3-3){back 1+1;say 2;}else{say 3;}say 4;}", "fn m ( ) { loop 0 { say 1 ; } if 1 { back 2 ; say 2 ; } else { say 3 ; } say 4 ; }", "fn m ( ) { loop 0 & 1 / 0 { say 1 ; } if ! ! ! ( 3 - 3 ) { back 1 + 1 ; } else { say 3 ; } say 4 ; }", "fn m ( ) { if 1 { back 2 ; } say 4 ; }"},
		{"fn m(){loop 1{loop 2-2{say 1;}if 0*7{back 1;}else{if 2-1{loop 0{}}else{say 2+2;}}}back 1;loop 1{}}", "fn m ( ) { loop 1 { loop 0 { say 1 ; } if 0 { back 1 ; } else { if 1 { loop 0 { } } else { say 4 ; } } } back 1 ; loop 1 { } }", "fn m ( ) { loop 1 { loop 2 - 2 { say 1 ; } if 0 * 7 { back 1 ; } else { if 2 - 1 { } else { say 2 + 2 ; } } } back 1 ; }", "fn m ( ) { loop 1 { if 0 { } else { if 1 { } } } back 1 ; }"},
		// what is called only where nothing is done is left a function all the same
		{"fn f(){back 1;}fn m(){loop 0{do f();}}", "", "fn f ( ) { back 1 ; } fn m ( ) { }", "fn f ( ) { back 1 ; } fn m ( ) { }"},
		{"fn f(){back 1;}fn m(){say 0&f();}", "fn f ( ) { back 1 ; } fn m ( ) { say 0 ; }", "", "fn f ( ) { back 1 ; } fn m ( ) { say 0 ; }"},
	})
}

// TestFoldFuel has runs whose fuel is told by hand: folding takes none away, and each StmtLoop that is cut one.
func TestFoldFuel(t *testing.T) {
	for s, want := range map[string][3]int{
		"fn m(){loop 0{say 1;}say 2+0;}":                                {2, 2, 1},
		"fn m(){loop 0{}loop 1-1{}say 0&1/0;}":                          {3, 3, 1},
		"fn m(){let a=3;loop a{loop 0{}a=a-(2-1);}}":                    {11, 11, 8},
		"fn m(){if 2-1{say 1;loop 0{}}else{say 2;}back 1*1;say 3;}":     {4, 4, 3},
		"fn f(){loop 0{}loop 0{}back 5;}fn m(){say f()+f();say f()*0;}": {11, 11, 5},
		"fn m(){say 1/0;loop 0{}}":                                      {1, 1, 1},
		"fn m(){loop 0{}put 16,1+1;say 2;}":                             {2, 2, 1},
		"fn m(){loop 0{}loop 1{loop 0{}}}":                              {-1, -1, -1},
	} {
		p := read(t, s)
		folded, _ := impl.FoldProgram(p)
		simpler, _ := impl.SimplerProgram(p)
		if got := [3]int{impl.FuelOf(p, nil), impl.FuelOf(folded, nil), impl.FuelOf(simpler, nil)}; got != want {
			t.Errorf("%q needs the fuel %v; want %v", s, got, want)
		}
		checkFolds(t, p)
	}
}

func TestIsSimple(t *testing.T) {
	for s, want := range map[string][3]bool{ // whether FoldProgram, CutProgram and SimplerProgram change nothing
		"fn m(){}": {true, true, true}, "fn m(a){say a;}": {true, true, true}, "fn m(){if 1{}else{}}": {true, true, true}, "fn m(){if 0{}else{say 1;}loop 1{}}": {true, true, true}, "fn m(a){say 0-a;say 1/a;say a/0;say a%1;say 0/a;say @a*0;say 2&a;say a&0;say !!a;}": {true, true, true},
		"fn m(){say 1+1;}": {false, true, false}, "fn m(a){back a+0;}": {false, true, false}, "fn m(a){say !!!a;}": {false, true, false}, "fn m(a){loop a*0{}}": {false, true, false}, "fn m(a){if a*0{say 1;}}": {false, true, false}, "fn f(a){back a*1;}fn m(){}": {false, true, false}, "fn m(a){if a{loop a{say 0&a;}}}": {false, true, false}, "fn m(a){if a{}else{put a,a/1;}}": {false, true, false},
		"fn m(){loop 0{}}": {true, false, false}, "fn m(){back 1;back 2;}": {true, false, false}, "fn m(){if 0{say 1;}}": {true, false, false}, "fn m(){if 1{}else{say 1;}}": {true, false, false}, "fn f(){back 1;say 2;}fn m(){}": {true, false, false}, "fn m(a){loop a{if a{}else{loop 0{}}}}": {true, false, false},
		"fn m(){loop 0{}say 1+1;}": {false, false, false}, "fn m(){back 1;say 1+1;}": {false, false, false}, "fn f(a){back a+0;}fn m(){if 1{}else{say 1;}}": {false, false, false},
	} {
		p := read(t, s)
		folded, _ := impl.FoldProgram(p)
		cut, _ := impl.CutProgram(p)
		if got := [3]bool{equalPrograms(folded, p), equalPrograms(cut, p), impl.IsSimple(p)}; got != want {
			t.Errorf("of %q nothing changes: %v; want %v", s, got, want)
		}
		checkFolds(t, p)
	}
}

func TestFoldOfSmallPrograms(t *testing.T) {
	a := variable("a")
	args := []impl.Expr{num(0), num(1), num(7), a, minus(num(2), num(2)), op(5, a, num(1)), op(10, num(0), a), op(6, num(1), num(0))}
	simple := []impl.Stmt{say(plus(a, num(0))), back(a), back(op(5, num(0), a)), let("b", not(num(3))), set("a", num(0)), loop(num(0), say(a)), when(num(0), block(say(a)), block(back(num(1)))), put(op(10, a, num(3)), num(9))}
	counts := map[[3]bool]int{}
	check := func(p impl.Program) {
		fine, folds, cuts := checkFolds(t, p)
		counts[[3]bool{fine, folds, cuts}]++
	}
	for i, s := range simple {
		for k, r := range simple {
			for n, e := range args {
				last := simple[(i+k+n)%len(simple)]
				check(program(fn("m", params("a"), when(e, block(s, r), block(r)), last)))
				check(program(fn("m", params("a"), loop(e, s, r, set("a", num(0))), last, s)))
				check(program(fn("m", params("a"), when(e, nil, block(loop(e, s), r)), back(e), last)))
				check(program(fn("f", params("a"), s, r), fn("m", params("b"), loop(e, when(args[k], block(s), block(r))), do(call("f", e)), back(call("f", args[i])), say(a))))
			}
		}
	}
	for kind, least := range map[[3]bool]int{{}: 200, {true, false, false}: 5, {true, true, false}: 100, {true, false, true}: 50, {true, true, true}: 500} {
		if counts[kind] < least {
			t.Errorf("too few small programs are fine, folded, and cut as in %v: %v", kind, counts)
		}
	}
}

// dressedBlock is a block with dressed Args, of which those of some blocks within are numbers.
func dressedBlock(rnd *rand.Rand, list []impl.Stmt) []impl.Stmt {
	list = plainBlock(list)
	for i, s := range list {
		for k := range s.Args {
			if s.Op != 8 && rnd.Intn(3) == 0 {
				s.Args[k] = dressed(rnd, s.Args[k])
			}
		}
		if (s.Op == 5 || s.Op == 6) && rnd.Intn(3) == 0 {
			zero := []impl.Expr{num(0), num(0), minus(num(7), num(7)), op(10, num(0), s.Args[0])}
			s.Args[0] = zero[rnd.Intn(len(zero))]
			if s.Op == 5 && rnd.Intn(2) == 0 {
				s.Args[0] = num(1 + rnd.Intn(255))
			}
		}
		list[i].Body, list[i].Else = dressedBlock(rnd, s.Body), dressedBlock(rnd, s.Else)
	}
	return list
}

func TestFoldOfRandomPrograms(t *testing.T) {
	counts := map[[3]bool]int{}
	for i, m := range []maker{{rnd: rand.New(rand.NewSource(62)), calm: true}, {rnd: rand.New(rand.NewSource(63))}, {rnd: rand.New(rand.NewSource(64)), wrong: 60, calm: true}} {
		for range 700 {
			p := m.program()
			for k := range p.Fns {
				if i != 1 {
					p.Fns[k].Body = dressedBlock(m.rnd, p.Fns[k].Body)
				}
			}
			fine, folds, cuts := checkFolds(t, p)
			counts[[3]bool{fine, folds, cuts}]++
		}
	}
	for kind, least := range map[[3]bool]int{{}: 300, {true, false, false}: 100, {true, true, false}: 200, {true, false, true}: 20, {true, true, true}: 200} {
		if counts[kind] < least {
			t.Errorf("too few random programs are fine, folded, and cut as in %v: %v", kind, counts)
		}
	}
}

// TestFoldOfProgramsThatAreWrong has programs of each fault, and such as are not valid, also where the fault would be
// folded or cut away.
func TestFoldOfProgramsThatAreWrong(t *testing.T) {
	for _, s := range []string{
		"fn f(){}fn f(){}", "fn m(a,a){}", "fn m(){let a=1;let a=2;}", "fn m(){say a;}", "fn m(){a=1;}", "fn m(){do m();}", "fn m(){do f();}fn f(){}", "fn f(a){}fn m(){do f();}",
		"fn m(){back 1;say a;}", "fn m(){loop 0{say a;}}", "fn m(){if 0{a=1;}}", "fn m(){if 1{}else{do f();}}", "fn m(){say 0&a;}", "fn m(){say 0*a;}", "fn m(){say 0&f();}", "fn f(){}fn m(){say 0&f(1);}", "fn m(){back 1;let a=1;let a=2;}", "fn f(){back 1;say a;}fn m(){}",
	} {
		p := read(t, s)
		if fine, _, _ := checkFolds(t, p); fine || impl.CheckProgram(p) < 2 {
			t.Errorf("nothing is wrong with %q", s)
		}
	}
	for i, p := range []impl.Program{
		{}, {Fns: []impl.Fn{}}, {Fns: []impl.Fn{{}}}, program(fn("m", params("a", "b", "c", "d"))), program(fn("f", nil), fn("g", nil), fn("h", nil), fn("i", nil), fn("m", nil)), mainOf(says(41)...), mainOf(append(block(back(num(1))), says(40)...)...), mainOf(within(4, say(num(1)))), mainOf(impl.Stmt{}), mainOf(back(num(1)), impl.Stmt{}), mainOf(say(num(256))), mainOf(back(num(1)), say(num(-1))), mainOf(loop(num(0), do(num(1)))), mainOf(say(op(10, num(0), nots(11, 5)))), mainOf(loop(num(0), impl.Stmt{Op: 9})), mainOf(impl.Stmt{Op: 5, Body: says(1)}), mainOf(impl.Stmt{Op: 6}),
		ring(1, 5, false), ring(3, 6, false), ring(2, 5, true), mainOf(say(endless(3, 11))), {Fns: make([]impl.Fn, 100000)},
	} {
		folded, foldOk := impl.FoldProgram(p)
		cut, cutOk := impl.CutProgram(p)
		simpler, ok := impl.SimplerProgram(p)
		if foldOk || cutOk || ok || impl.IsSimple(p) || len(folded.Fns)+len(cut.Fns)+len(simpler.Fns) > 0 {
			t.Errorf("the program %d, which is not valid, is turned", i)
		}
	}
	counts := map[[3]bool]int{}
	for _, p := range otherPrograms(read(t, "fn f(a){back 7/a+0;say 1;}fn m(b){let a=f(b);if 1{let b=a*0;say b;}else{put 16,a;}loop b{b=b-1;do f(b);}loop 0{}}")) {
		fine, folds, cuts := checkFolds(t, p)
		counts[[3]bool{fine, folds, cuts}]++
	}
	if counts[[3]bool{}] < 1000 || counts[[3]bool{true, true, true}] < 30 {
		t.Errorf("too few of the changed programs are fine, folded and cut: %v", counts)
	}
}

// TestFoldOfMostPrograms has programs that are as great as they may be.
func TestFoldOfMostPrograms(t *testing.T) {
	great := program(fn("m", params("a")))
	for range 40 {
		great.Fns[0].Body = append(great.Fns[0].Body, put(plus(withParts(28), num(0)), op(5, num(1), withParts(28))))
	}
	deep := when(num(1), block(when(num(0), block(say(num(1))), block(loop(num(1), back(num(2)), back(num(3)))))), block(say(num(4))))
	for _, p := range []impl.Program{great, mainOf(says(40)...), mainOf(append(block(back(num(1))), says(39)...)...), mainOf(loop(num(0), says(39)...)), mainOf(deep), program(fn("m", params("a"), within(3, back(variable("a"))))), program(fn("m", params("a", "b", "c"), lets(40)...)), program(fn("f", nil, deep), fn("g", nil, deep), fn("h", nil, deep), fn("m", params("a"), deep, say(variable("a"))))} {
		if fine, _, _ := checkFolds(t, p); !fine {
			t.Errorf("something is wrong with %v", p)
		}
	}
	if _, ok := impl.ProgramText(great); ok {
		t.Error("the great program has a text")
	}
}

func TestFoldResultsAreTheirOwn(t *testing.T) {
	for _, s := range []string{"fn m(){}", "fn m(a,b,c){say a;put b,c+0;back 3;say 4;}", "fn f(a){say a*1;back a;}fn m(a,b){if 1{say f(a)+f(b);loop 0{}back 1;}else{say 0&a;}loop a{say !!!b;back f(f(a+0));say 3;}}", "fn m(a){if a{say f;}}"} {
		p, ok := impl.ReadProgram(s)
		before := plainProgram(p)
		turns := []func(impl.Program) (impl.Program, bool){impl.FoldProgram, impl.CutProgram, impl.SimplerProgram}
		for _, turn := range turns {
			q, fine := turn(p)
			again, _ := turn(p)
			want := plainProgram(q)
			if sharesWith(p, q, again) || ok && !fine && !strings.Contains(s, "say f;") {
				t.Errorf("results of %q share memory: %v", s, q)
			}
			for i := range q.Fns {
				spoilBlock(q.Fns[i].Body)
				q.Fns[i] = impl.Fn{Name: "spoilt"}
			}
			if !equalPrograms(p, before) || !equalPrograms(again, want) {
				t.Errorf("what is written to a result of %q is seen elsewhere", s)
			}
			if third, _ := turn(p); !equalPrograms(third, want) {
				t.Errorf("a result of %q depends on an earlier one", s)
			}
		}
	}
}

// spoilBlock writes to all lists of a block, and behind them.
func spoilBlock(list []impl.Stmt) {
	for _, s := range list {
		spoil(impl.Expr{Kids: s.Args})
		spoilBlock(s.Body)
		spoilBlock(s.Else)
	}
	all := list[:cap(list)]
	for i := range all {
		all[i] = impl.Stmt{Op: -7, Name: "spoilt"}
	}
}

// TestFoldOfSharedMemory has expressions and programs of which lists are the same memory, and have more memory behind
// them, which is not to be read or written.
func TestFoldOfSharedMemory(t *testing.T) {
	names := []string{"a", "b", "a"}
	kids := []impl.Expr{variable("a"), num(0), num(1), {Op: 79}}
	exprs := []impl.Expr{{Op: 3, Kids: kids[:2]}, {Op: 5, Kids: kids[:2]}, {Op: 13, Name: "f", Kids: kids[:2]}, {Op: 11, Kids: kids[:1]}, {Op: 10, Kids: kids[1:3]}, {Op: 80}}
	inner := []impl.Stmt{{Op: 3, Args: exprs[:1]}, {Op: 6, Args: kids[1:2], Body: []impl.Stmt{{Op: 3, Args: kids[:1]}}}, {Op: 7, Args: exprs[1:2]}, {Op: 3, Args: exprs[3:4]}, {Op: 78}}
	outer := []impl.Stmt{{Op: 5, Args: kids[2:3], Body: inner[:2], Else: inner[:4]}, {Op: 6, Args: exprs[4:5], Body: inner[:3]}, {Op: 5, Args: exprs[:1], Body: inner[:4], Else: inner[:0]}, {Op: 77}}
	fns := []impl.Fn{{Name: "f", Params: names[:2], Body: outer[:3]}, {Name: "g", Params: names[:2], Body: inner[:4]}, {Name: "m", Params: names[1:3], Body: outer[:2]}, {Name: "m"}}
	told := func() string { return fmt.Sprint(names, kids, exprs, inner, outer, fns) }
	before := told()
	for n := 1; n <= 3; n++ {
		if fine, folds, cuts := checkFolds(t, impl.Program{Fns: fns[:n]}); !fine || !folds || !cuts {
			t.Errorf("the first %d functions are fine, folded, and cut: %v, %v, %v", n, fine, folds, cuts)
		}
	}
	for _, e := range exprs {
		for o := 3; o <= 10; o++ {
			checkFold(t, op(o, e, e))
			checkFold(t, op(o, e, exprs[2]))
		}
		x, _ := impl.FoldExpr(call("f", e, plus(e, num(0)), e))
		if sharesWith(exprs, x) {
			t.Errorf("lists of %v share memory", x)
		}
	}
	if after := told(); after != before {
		t.Errorf("what was given became %s", after)
	}
}
