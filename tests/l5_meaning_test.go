package tests

import (
	"fmt"
	"math"
	"math/rand"
	"reflect"
	"slices"
	"strconv"
	"strings"
	"testing"

	"loop.example/wholeway/impl"
)

// The runs of the document's chapter 5, told a second time and in another way than the program tells them: the words of
// a program are done as they stand, without trees, and what is not to be done is gone over.
type wordRun struct {
	words []string
	at    int
	fuel  int
	still int       // while it is above 0, what is gone over is not reckoned
	end   int       // how the run ends, -1 as long as it goes on
	value int       // what the last StmtBack told
	vars  []wordVar // those of the function, the nearest ones last
	said  []int
	cells [16]int
}

type wordVar struct {
	name  string
	value int
}

// wordLevels are those of the ops between two.
var wordLevels = map[string]int{"&": 1, "<": 2, "=": 2, "+": 3, "-": 3, "*": 4, "/": 4, "%": 4}

// word goes behind the next word, and tells it.
func (r *wordRun) word() string {
	r.at++
	return r.words[r.at-1]
}

// off tells whether what is gone over is not reckoned.
func (r *wordRun) off() bool { return r.still > 0 || r.end >= 0 }

func (r *wordRun) stop(end int) {
	if !r.off() {
		r.end = end
	}
}

// between is the value of an op between two; false if something is divided by 0.
func between(sign string, a int, b int) (int, bool) {
	so := false
	switch sign {
	case "+":
		return (a + b) % 256, true
	case "-":
		return (a + 256 - b) % 256, true
	case "*":
		return a * b % 256, true
	case "/", "%":
		times := 0
		for ; b > 0 && a >= b; times++ {
			a -= b
		}
		if sign == "%" {
			return a, b > 0
		}
		return times, b > 0
	case "<":
		so = a < b
	case "=":
		so = a == b
	case "&":
		so = a > 0 && b > 0
	}
	if so {
		return 1, true
	}
	return 0, true
}

// reckon goes over what stands next, up to an op of a lower level, and tells its value.
func (r *wordRun) reckon(level int) int {
	if level == 5 {
		return r.single()
	}
	v := r.reckon(level + 1)
	for r.at < len(r.words) && wordLevels[r.words[r.at]] == level {
		sign := r.word()
		skip := sign == "&" && v == 0
		if skip {
			r.still++
		}
		right := r.reckon(level + 1)
		if skip {
			r.still--
		}
		var fine bool
		if v, fine = between(sign, v, right); !fine {
			r.stop(1)
		}
	}
	return v
}

// single goes over what no op between two cuts apart.
func (r *wordRun) single() int {
	switch w := r.word(); {
	case w == "(":
		v := r.reckon(1)
		r.word()
		return v
	case w == "!":
		v, _ := between("=", r.reckon(5), 0)
		return v
	case w == "@":
		v := r.reckon(5)
		if v < 16 {
			return r.cells[v]
		}
		r.stop(2)
		return 0
	case byteForm.MatchString(w):
		v, _ := strconv.Atoi(w)
		return v
	case r.at < len(r.words) && r.words[r.at] == "(":
		return r.call(w)
	default:
		return *r.variable(w)
	}
}

// variable is the nearest one with a name.
func (r *wordRun) variable(s string) *int {
	for i := len(r.vars) - 1; i >= 0; i-- {
		if r.vars[i].name == s {
			return &r.vars[i].value
		}
	}
	return new(int)
}

// call goes over what is handed to a function, and does this.
func (r *wordRun) call(s string) int {
	var in []int
	for r.word(); r.words[r.at-1] != ")"; {
		if r.words[r.at] == ")" {
			r.word()
			break
		}
		in = append(in, r.reckon(1))
		r.word()
	}
	if r.off() {
		return 0
	}
	return r.function(s, in)
}

// function does a function, and goes back to where it was.
func (r *wordRun) function(s string, in []int) int {
	at, vars := r.at, r.vars
	for i := range r.words {
		if r.words[i] == "fn" && r.words[i+1] == s {
			r.at = i + 3
		}
	}
	r.vars = nil
	for r.words[r.at] != "{" {
		if w := r.word(); wantValid(name(w)) {
			r.vars = append(r.vars, wordVar{w, in[len(r.vars)]})
		}
	}
	value := 0
	if !r.block() {
		value = r.value
	}
	r.at, r.vars = at, vars
	return value
}

// take takes one of the fuel, and tells whether there was one.
func (r *wordRun) take() bool {
	if r.fuel == 0 {
		r.stop(3)
	} else {
		r.fuel--
	}
	return r.end < 0
}

// block does a block, and tells whether the function goes on behind it.
func (r *wordRun) block() bool {
	outside := len(r.vars)
	for r.word(); r.words[r.at] != "}"; {
		if !r.take() || !r.statement() {
			return false
		}
	}
	r.word()
	r.vars = r.vars[:outside]
	return true
}

// pass goes over a block.
func (r *wordRun) pass() {
	open := 0
	for first := true; first || open > 0; first = false {
		switch r.word() {
		case "{":
			open++
		case "}":
			open--
		}
	}
}

// statement does a statement, and tells whether the function goes on behind it.
func (r *wordRun) statement() bool {
	switch w := r.word(); w {
	case "if":
		return r.choose(r.reckon(1))
	case "loop":
		return r.repeat()
	case "put":
		n := r.reckon(1)
		r.word()
		if v := r.reckon(1); n >= 16 {
			r.stop(2)
		} else if !r.off() {
			r.cells[n] = v
		}
	case "say":
		if v := r.reckon(1); !r.off() {
			r.said = append(r.said, v)
		}
	case "back":
		r.value = r.reckon(1)
		return false
	case "do":
		r.reckon(1)
	case "let":
		s := r.word()
		r.word()
		r.vars = append(r.vars, wordVar{s, r.reckon(1)})
	default:
		r.word()
		v := r.reckon(1)
		*r.variable(w) = v
	}
	r.word()
	return r.end < 0
}

func (r *wordRun) choose(v int) bool {
	if r.end >= 0 {
		return false
	}
	if v > 0 {
		if !r.block() {
			return false
		}
	} else {
		r.pass()
	}
	if r.words[r.at] != "else" {
		return true
	}
	r.word()
	if v == 0 {
		return r.block()
	}
	r.pass()
	return true
}

func (r *wordRun) repeat() bool {
	begin := r.at
	for r.reckon(1) > 0 && r.end < 0 {
		if !r.block() || !r.take() {
			return false
		}
		r.at = begin
	}
	if r.end < 0 {
		r.pass()
	}
	return r.end < 0
}

// wordsToRun are the words of a program with which nothing is wrong, and nothing of all others.
func wordsToRun(p impl.Program) []string {
	if s := scanOf(p); s.code == 0 {
		return s.words
	}
	return nil
}

// wantRun is what RunProgram of a program with these words should return, and the fuel that is left.
func wantRun(words []string, p impl.Program, in []int, fuel int) (impl.Outcome, int, bool) {
	if words == nil || fuel < 0 || fuel > 4000 {
		return impl.Outcome{}, 0, false
	}
	f := p.Fns[len(p.Fns)-1]
	if len(in) != len(f.Params) || slices.ContainsFunc(in, func(n int) bool { return n < 0 || n > 255 }) {
		return impl.Outcome{}, 0, false
	}
	r := wordRun{words: words, fuel: fuel, end: -1}
	o := impl.Outcome{Value: r.function(f.Name, in)}
	if r.end > 0 {
		o.Value = 0
	}
	o.Said, o.End, o.Cells = r.said, max(r.end, 0), r.cells[:]
	return o, r.fuel, true
}

func equalOutcomes(a impl.Outcome, b impl.Outcome) bool {
	return slices.Equal(a.Said, b.Said) && a.End == b.End && a.Value == b.Value && slices.Equal(a.Cells, b.Cells)
}

// wantOutcomeText is the text of an outcome.
func wantOutcomeText(o impl.Outcome) string {
	var words []any
	for _, n := range o.Said {
		words = append(words, n)
	}
	switch end, known := map[int]string{0: "back", 1: "divide", 2: "cell", 3: "fuel"}[o.End]; {
	case !known:
		words = append(words, "what")
	case o.End == 0:
		words = append(words, "back", o.Value)
	default:
		words = append(words, end)
	}
	for i, n := range o.Cells {
		if n != 0 {
			words = append(words, fmt.Sprintf("%d=%d", i, n))
		}
	}
	return strings.TrimSuffix(fmt.Sprintln(words...), "\n")
}

// fuelsFor are the fuels that are tried with a run that needs so much, or with one that does not end, for which it is -1.
func fuelsFor(need int) []int {
	fuels := []int{math.MinInt, -4000, -1, 0, 1, 2, 3, 9, 100, 4000, 4001, 1 << 32, math.MaxInt}
	for n := max(need-2, 0); n <= need+2; n++ {
		fuels = append(fuels, n)
	}
	for n := range min(need, 40) {
		fuels = append(fuels, n)
	}
	return fuels
}

// checkRuns compares what the program tells of the runs of a program, valid or not, to which these numbers are handed,
// with what it should tell, and checks promise 5 on it. It returns how the run ends with the most fuel, and -1 if there
// is none.
func checkRuns(t *testing.T, p impl.Program, in []int) int {
	t.Helper()
	before, handed := plainProgram(p), slices.Clone(in)
	words := wordsToRun(p)
	most, left, fine := wantRun(words, p, in, 4000)
	need := 4000 - left
	if !fine || most.End == 3 {
		need = -1
	}
	if got := impl.FuelOf(p, in); got != need {
		t.Fatalf("FuelOf(%v, %v) = %d; want %d", p, in, got, need)
	}
	for _, fuel := range fuelsFor(need) {
		want, _, wantOk := wantRun(words, p, in, fuel)
		got, ok := impl.RunProgram(p, in, fuel)
		if ok != wantOk || !equalOutcomes(got, want) {
			t.Fatalf("RunProgram(%v, %v, %d) = %v, %v; want %v, %v", p, in, fuel, got, ok, want, wantOk)
		}
		if text := impl.OutcomeText(got); text != wantOutcomeText(want) || !impl.SameOutcome(got, want) {
			t.Fatalf("the text of %v is %q", got, text)
		}
		if ok && need >= 0 && fuel >= need && !equalOutcomes(got, most) {
			t.Fatalf("RunProgram(%v, %v, %d) = %v; with more fuel it is %v", p, in, fuel, got, most)
		}
		if begun := len(got.Said); ok && fuel < need && (got.End != 3 || !slices.Equal(got.Said, most.Said[:begun])) {
			t.Fatalf("RunProgram(%v, %v, %d) = %v; with more fuel it is %v", p, in, fuel, got, most)
		}
	}
	if !equalPrograms(p, before) || !slices.Equal(in, handed) {
		t.Fatalf("%v, %v became %v, %v", before, handed, p, in)
	}
	if !fine {
		return -1
	}
	return most.End
}

// checkInputs compares InputsFor of a program, valid or not, with what it should return, and checks the runs to which
// these numbers are handed. It counts how they end.
func checkInputs(t *testing.T, p impl.Program, ends map[int]int) {
	t.Helper()
	lists := impl.InputsFor(p)
	if scanOf(p).code != 0 {
		if len(lists) > 0 {
			t.Fatalf("InputsFor(%v) = %v", p, lists)
		}
		ends[checkRuns(t, p, nil)]++
		return
	}
	n := len(p.Fns[len(p.Fns)-1].Params)
	if want := [][]int{{0, 0, 0}, {1, 2, 3}, {255, 16, 7}}; len(lists) != 3 || !slices.Equal(lists[0], want[0][:n]) || !slices.Equal(lists[1], want[1][:n]) || !slices.Equal(lists[2], want[2][:n]) {
		t.Fatalf("InputsFor(%v) = %v", p, lists)
	}
	for i, in := range lists {
		if i == 0 || n > 0 {
			ends[checkRuns(t, p, in)]++
		}
	}
}

// wantEval is what EvalExpr should return.
func wantEval(e impl.Expr, names []string, values []int) (int, int) {
	if !wantExprValid(e) || len(names) != len(values) {
		return -1, -1
	}
	r := wordRun{words: strings.Fields(wantExprText(e)), end: -1}
	for i := len(names) - 1; i >= 0; i-- {
		r.vars = append(r.vars, wordVar{names[i], values[i]})
		if values[i] < 0 || values[i] > 255 {
			return -1, -1
		}
	}
	for i, w := range r.words {
		isCall := i+1 < len(r.words) && r.words[i+1] == "(" && wantValid(name(w))
		if w == "@" || isCall || wantValid(name(w)) && !slices.Contains(names, w) {
			return -1, -1
		}
	}
	v := r.reckon(1)
	if r.end > 0 {
		return 0, r.end
	}
	return v, 0
}

// checkEval compares EvalExpr with what it should return, and returns the end.
func checkEval(t *testing.T, e impl.Expr, names []string, values []int) int {
	t.Helper()
	before, given, told := plainExpr(e), slices.Clone(names), slices.Clone(values)
	want, wantEnd := wantEval(e, names, values)
	got, end := impl.EvalExpr(e, names, values)
	if got != want || end != wantEnd {
		t.Fatalf("EvalExpr(%v, %q, %v) = %d, %d; want %d, %d", e, names, values, got, end, want, wantEnd)
	}
	if !equalExprs(e, before) || !slices.Equal(names, given) || !slices.Equal(values, told) {
		t.Fatalf("%v, %q, %v became %v, %q, %v", before, given, told, e, names, values)
	}
	return end
}

// runCase is a run that is told by hand: the least fuel is -1 if it does not end.
type runCase struct {
	s    string
	in   []int
	want string
	fuel int
}

func checkCases(t *testing.T, list []runCase) {
	t.Helper()
	for _, c := range list {
		p := read(t, c.s)
		o, ok := impl.RunProgram(p, c.in, 4000)
		if text, fuel := impl.OutcomeText(o), impl.FuelOf(p, c.in); !ok || text != c.want || fuel != c.fuel {
			t.Errorf("the run of %q with %v is %q, %v, with the fuel %d; want %q with %d", c.s, c.in, text, ok, fuel, c.want, c.fuel)
		}
		checkRuns(t, p, c.in)
	}
}

func TestRunsOfStatements(t *testing.T) {
	checkCases(t, []runCase{
		{"fn m(){}", nil, "back 0", 0},
		{"fn m(a){}", []int{9}, "back 0", 0},
		{"fn m(){back 7;}", nil, "back 7", 1},
		{"fn m(){say 1;}", nil, "1 back 0", 1},
		{"fn m(a,b,c){say a;say b;say c;back a+b+c;}", []int{1, 2, 3}, "1 2 3 back 6", 4},
		{"fn m(a,b,c){back a;}", []int{255, 0, 1}, "back 255", 1},
		{"fn m(){back 1;say 2;back 3;}", nil, "back 1", 1},
		{"fn m(){put 0,1;put 15,2;put 7,255;}", nil, "back 0 0=1 7=255 15=2", 3},
		{"fn m(){put 3,9;say @3;put 3,0;back @3;}", nil, "9 back 0", 4},
		{"fn m(){put 3,9;put 3,@3+@4+1;back @3;}", nil, "back 10 3=10", 3},
		{"fn m(a){if a{say 1;}else{say 2;}say 3;}", []int{1}, "1 3 back 0", 3},
		{"fn m(a){if a{say 1;}else{say 2;}say 3;}", []int{0}, "2 3 back 0", 3},
		{"fn m(a){if a{say 1;}say 3;}", []int{255}, "1 3 back 0", 3},
		{"fn m(a){if a{say 1;}say 3;}", []int{0}, "3 back 0", 2},
		{"fn m(a){if a{}else{say 1;}say 3;}", []int{2}, "3 back 0", 2},
		{"fn m(a){loop a{say a;a=a-1;}back 7;}", []int{2}, "2 1 back 7", 8},
		{"fn m(a){loop a{say a;a=a-1;}back 7;}", []int{0}, "back 7", 2},
		{"fn m(a){let b=a;loop a{a=a-1;}back b;}", []int{255}, "back 255", 513},
		{"fn m(a,b){loop a{let c=b;loop c{c=c-1;}a=a-1;}}", []int{40, 40}, "back 0", 3361},
		{"fn m(a){loop a{}back 1;}", []int{0}, "back 1", 2},
		{"fn m(a){if a{loop a{back a;}}back 1;}", []int{5}, "back 5", 3},
		{"fn m(a){loop a{if a{back a;}else{}}back 1;}", []int{5}, "back 5", 3},
		{"fn m(a){loop 1{loop 1{if a=3{back a;}a=a+1;}}}", []int{1}, "back 3", 10},
		{"fn m(a){let b=1;loop a{let b=b;b=b+a;say b;a=a-1;}say b;}", []int{3}, "4 3 2 1 back 0", 18},
		{"fn m(a){loop a{let b=0;if a=2{b=7;}say b;a=a-1;}}", []int{3}, "0 7 0 back 0", 17},
		{"fn m(a){let b=a;if b{let b=2;let a=b+1;a=a+b;say a;}else{let b=3;say b;b=4;}say b;say a;}", []int{1}, "5 1 1 back 0", 8},
		{"fn m(a){let b=a;if b{let b=2;let a=b+1;a=a+b;say a;}else{let b=3;say b;b=4;}say b;say a;}", []int{0}, "3 0 0 back 0", 7},
		{"fn m(a){if a{let b=1;say b;}let b=2;say b;if a{b=3;}say b;}", []int{1}, "1 2 3 back 0", 8},
		{"fn m(a){a=a;a=a+a;back a;}", []int{100}, "back 200", 3},
	})
}

func TestRunsOfExpressions(t *testing.T) {
	for s, want := range map[string]string{
		"200+100": "44", "255+1": "0", "3-5": "254", "0-1": "255", "5-5": "0", "16*17": "16", "255*255": "1", "128*2": "0", "15*17": "255",
		"7/2": "3", "255/16": "15", "3/5": "0", "5/5": "1", "255/255": "1", "255/1": "255", "0/3": "0", "7%2": "1", "255%16": "15", "3%5": "3", "5%5": "0", "0%3": "0", "5%1": "0", "254%255": "254",
		"5<5": "0", "4<5": "1", "5<4": "0", "0<255": "1", "255<0": "0", "5=5": "1", "5=4": "0", "0=0": "1", "200+100=44": "1", "0-1<1": "0",
		"2&3": "1", "255&0": "0", "0&255": "0", "0&0": "0", "1&1": "1", "128&64": "1", "!0": "1", "!1": "0", "!7": "0", "!!7": "1", "!!0": "0", "!255": "0",
		"1+2*3": "7", "(1+2)*3": "9", "10-3-2": "5", "10-(3-2)": "9", "100/10/5": "2", "100/(10/5)": "50", "17%10%4": "3", "2*3%4": "2", "2*(3%4)": "6", "200*2/2": "72", "!3+1": "1", "!(3-3)+1": "2", "1<2<3": "1", "3<2<1": "1", "2=2=1": "1",
		"@0": "0", "@15": "0", "@@@0": "0", "1+@3": "1",
	} {
		p := read(t, "fn m(){back "+s+";}")
		o, ok := impl.RunProgram(p, nil, 1)
		if text := impl.OutcomeText(o); !ok || text != "back "+want || impl.FuelOf(p, nil) != 1 {
			t.Errorf("the value of %q is %q, %v; want %q", s, text, ok, want)
		}
		checkRuns(t, p, nil)
	}
}

// TestRunsInOrder has what ends the run, in the order in which it is reckoned, and what is not reckoned.
func TestRunsInOrder(t *testing.T) {
	for _, form := range []string{
		"say X+Y;", "say X-Y;", "say X*Y;", "say X/(Y);", "say X%(Y);", "say X<Y;", "say X=Y;", "say X&Y;", "put X,Y;", "let a=X;let b=Y;", "do f(X,Y,3);", "do f(1,X,Y);", "say f(X,2,Y);",
		"if X{say Y;}", "loop X{say Y;}", "back !(X)+!(Y);", "say f(f(1,2,X),Y,3);", "say @(X)+Y;", "back X+f(Y,1,2);", "let a=3;a=X+Y;", "say 3+X*Y;", "say (X+3)*Y;",
	} {
		need := 2 + strings.Count(form, "let a=3;")
		for end, both := range map[string][]string{"divide": {"1/0", "@16"}, "cell": {"@16", "1/0"}} {
			body := strings.NewReplacer("X", both[0], "Y", both[1]).Replace(form)
			checkCases(t, []runCase{{"fn f(a,b,c){say 77;}fn m(){say 5;" + body + "say 6;}", nil, "5 " + end, need}})
		}
	}
	checkCases(t, []runCase{
		{"fn m(){say 0&1/0;say 0&1%0;say 0&@16;}", nil, "0 0 0 back 0", 3},
		{"fn m(){say 0&1/0&2;say 0&(1/0&@99);say 1&0&1/0;}", nil, "0 0 0 back 0", 3},
		{"fn m(){say 3&1/0;}", nil, "divide", 1},
		{"fn m(){say 3&@16;}", nil, "cell", 1},
		{"fn m(){say 1/0&0;}", nil, "divide", 1},
		{"fn m(a){say a&6/a;if a&6/a{say 1;}loop a&7%a{back 2;}back 3;}", []int{0}, "0 back 3", 4},
		{"fn m(a){say a&6/a;if a&6/a{say 1;}loop a&7%a{back 2;}back 3;}", []int{2}, "1 1 back 2", 5},
		{"fn f(){say 9;put 1,2;back 1;}fn m(){say 0&f();say 1&f();say f()&0;}", nil, "0 9 1 9 0 back 0 1=2", 9},
		{"fn f(){say 9;back 0;}fn m(){say f()&1/0;say f()&f();say !f()&f();}", nil, "9 0 9 0 9 9 0 back 0", 11},
		{"fn f(a){say a;back a;}fn m(){say f(1)+f(2)*f(3);}", nil, "1 2 3 7 back 0", 7},
		{"fn f(a){say a;back a;}fn m(){say (f(1)+f(2))*f(3)-f(4);back f(5)<f(6);}", nil, "1 2 3 4 5 5 6 back 1", 14},
		{"fn f(a){say a;back a;}fn m(){say f(7)/f(2)=f(3);put f(4),f(5);}", nil, "7 2 3 1 4 5 back 0 4=5", 12},
		{"fn m(){put 16,1/0;}", nil, "divide", 1},
		{"fn m(){put 1/0,@16;}", nil, "divide", 1},
		{"fn m(){put @16,1/0;}", nil, "cell", 1},
		{"fn m(){put 16,@16;}", nil, "cell", 1},
		{"fn m(){put 16,1;}", nil, "cell", 1},
		{"fn m(){put 255,1;}", nil, "cell", 1},
		{"fn m(){put 0-1,1;}", nil, "cell", 1},
		{"fn m(){say @255;}", nil, "cell", 1},
		{"fn m(){put 2,16;say @@2;}", nil, "cell 2=16", 2},
		{"fn f(){say 5;back 1;}fn m(){put 16,f();}", nil, "5 cell", 3},
		{"fn f(){put 2,7;back 2;}fn m(){put 2,@2+f();say @2;put @f(),@2;}", nil, "2 back 0 2=7 7=7", 7},
		{"fn f(){put 2,7;back 2;}fn m(){say @2+f()+@2;}", nil, "9 back 0 2=7", 3},
	})
}

func TestRunsOfCalls(t *testing.T) {
	checkCases(t, []runCase{
		{"fn f(a){say a;back a*2;}fn m(){back f(200)+1;}", nil, "200 back 145", 3},
		{"fn f(a){say a;back a;}fn g(a,b,c){say a;say b;say c;back c;}fn m(){back g(f(1),f(2),f(g(f(3),4,5)));}", nil, "1 2 3 3 4 5 5 1 2 5 back 5", 17},
		{"fn f(a){loop 1{if a<3{say a;}else{back a;}a=a+1;}say 99;}fn m(){back f(1)+10;}", nil, "1 2 back 13", 12},
		{"fn f(a){a=5;}fn m(){back f(1)+7;}", nil, "back 7", 2},
		{"fn f(a){if a{back 4;}}fn m(){say f(1);say f(0);}", nil, "4 0 back 0", 5},
		{"fn f(){back 9;}fn g(){do f();}fn m(){say f();back g();}", nil, "9 back 0", 5},
		{"fn f(){back 9;}fn m(){do f();}", nil, "back 0", 2},
		{"fn f(){}fn m(){say f();back f()+1;}", nil, "0 back 1", 2},
		{"fn f(a){a=a+1;back a;}fn m(a){say f(a);say a;}", []int{4}, "5 4 back 0", 4},
		{"fn f(a,b,c){back a-b-c;}fn m(a,b,c){say f(c,b,a);back f(a,b,c);}", []int{9, 3, 1}, "245 back 5", 4},
		{"fn f(a){let b=a;b=b+1;back b;}fn m(){let b=3;say f(9);say b;say f(b)+b;}", nil, "10 3 7 back 0", 10},
		{"fn f(a){back a;}fn g(a){back f(a)*2;}fn h(a){back g(a)+f(1);}fn m(a){back h(g(f(a)));}", []int{5}, "back 21", 8},
		{"fn m(m){back m;}", []int{5}, "back 5", 1},
		{"fn f(a){back a;}fn m(f){back f(f)+f;}", []int{5}, "back 10", 2},
		{"fn f(){put 0,@0+1;back @0<5;}fn m(){loop f(){}say @0;}", nil, "5 back 0 0=5", 16},
		{"fn f(a){put 1,a;back @1;}fn m(){say f(3);say @1;}", nil, "3 3 back 0 1=3", 4},
		{"fn f(a){say 1;put 1,2;say 10/a;say 3;}fn m(a){say 0;do f(a);say 4;}", []int{0}, "0 1 divide 1=2", 5},
		{"fn f(a){say 1;put 1,2;say 10/a;say 3;}fn m(a){say 0;do f(a);say 4;}", []int{5}, "0 1 2 3 4 back 0 1=2", 7},
		{"fn f(a){say 1;put 1,2;say 10%a;say 3;}fn m(a){say 0;do f(a);say 4;}", []int{0}, "0 1 divide 1=2", 5},
		{"fn f(a){say 1;put a,7;say 2;back @a;}fn m(a){put 0,1;say f(a)+f(a+1);}", []int{14}, "1 2 1 2 14 back 0 0=1 14=7 15=7", 10},
		{"fn f(a){say 1;put a,7;say 2;back @a;}fn m(a){put 0,1;say f(a)+f(a+1);}", []int{15}, "1 2 1 cell 0=1 15=7", 8},
		{"fn f(a){say 1;put a,7;say 2;back @a;}fn m(a){put 0,1;say f(a)+f(a+1);}", []int{16}, "1 cell 0=1", 4},
		{"fn f(a){say 1;put a,7;say 2;back @a;}fn m(a){put 0,1;say f(a)+f(a+1);}", []int{255}, "1 cell 0=1", 4},
		{"fn f(a){back @a;}fn g(a){say a;back f(a)+1;}fn m(a){loop 1{if 1{say g(a);}}}", []int{16}, "16 cell", 6},
	})
}

// TestRunsThatEndByFuel has what was said and set ahead of the statement, or the turn, for which no fuel is left.
func TestRunsThatEndByFuel(t *testing.T) {
	for _, c := range []struct {
		s    string
		in   []int
		want []string // with the fuel 0, 1 and so on
	}{
		{"fn m(){}", nil, []string{"back 0", "back 0"}},
		{"fn m(){back 7;}", nil, []string{"fuel", "back 7", "back 7"}},
		{"fn m(){say 1;put 2,3;say 4;}", nil, []string{"fuel", "1 fuel", "1 fuel 2=3", "1 4 back 0 2=3", "1 4 back 0 2=3"}},
		{"fn m(){say 1;say 1/0;}", nil, []string{"fuel", "1 fuel", "1 divide", "1 divide"}},
		{"fn m(){say 1;put 16,0;}", nil, []string{"fuel", "1 fuel", "1 cell", "1 cell"}},
		{"fn m(a){loop a{a=a-1;}say a;}", []int{2}, []string{"fuel", "fuel", "fuel", "fuel", "fuel", "fuel", "0 back 0", "0 back 0"}},
		{"fn m(a){loop a{a=a-1;}}", []int{2}, []string{"fuel", "fuel", "fuel", "fuel", "fuel", "back 0", "back 0"}},
		{"fn m(a){loop a{say a;a=a-1;}say 7/a;}", []int{1}, []string{"fuel", "fuel", "1 fuel", "1 fuel", "1 fuel", "1 divide", "1 divide"}},
		{"fn f(){put 0,@0+1;back @0<3;}fn m(){loop f(){}}", nil, []string{"fuel", "fuel", "fuel 0=1", "fuel 0=1", "fuel 0=1", "fuel 0=2", "fuel 0=2", "fuel 0=2", "fuel 0=3", "back 0 0=3", "back 0 0=3"}},
		{"fn m(){loop 1{}}", nil, []string{"fuel", "fuel", "fuel", "fuel"}},
		{"fn m(){loop 1{say 1;}}", nil, []string{"fuel", "fuel", "1 fuel", "1 fuel", "1 1 fuel", "1 1 fuel", "1 1 1 fuel"}},
		{"fn m(){loop 1{back 3;}}", nil, []string{"fuel", "fuel", "back 3", "back 3"}},
		{"fn m(){loop 0{say 1;}}", nil, []string{"fuel", "back 0", "back 0"}},
		{"fn m(){if 1{say 1;}else{say 2;}}", nil, []string{"fuel", "fuel", "1 back 0", "1 back 0"}},
		{"fn m(){if 0{say 1;}else{say 2;say 3;}}", nil, []string{"fuel", "fuel", "2 fuel", "2 3 back 0", "2 3 back 0"}},
		{"fn f(a){say a;back a*2;}fn m(){back f(200)+1;}", nil, []string{"fuel", "fuel", "200 fuel", "200 back 145", "200 back 145"}},
		{"fn f(a){put a,a+1;back a;}fn m(){say f(1)+f(2);}", nil, []string{"fuel", "fuel", "fuel 1=2", "fuel 1=2", "fuel 1=2 2=3", "3 back 0 1=2 2=3"}},
		{"fn f(){loop 1{say 1;}}fn m(){say 0;do f();}", nil, []string{"fuel", "0 fuel", "0 fuel", "0 fuel", "0 1 fuel", "0 1 fuel", "0 1 1 fuel"}},
		{"fn f(){}fn m(){back f()+f();}", nil, []string{"fuel", "back 0"}},
	} {
		p := read(t, c.s)
		for fuel, want := range c.want {
			o, ok := impl.RunProgram(p, c.in, fuel)
			if text := impl.OutcomeText(o); !ok || text != want || len(o.Cells) != 16 || o.End != 0 && o.Value != 0 {
				t.Errorf("the run of %q with %v and the fuel %d is %q, %v; want %q", c.s, c.in, fuel, text, ok, want)
			}
		}
		checkRuns(t, p, c.in)
	}
}

func TestRunsWithoutEnd(t *testing.T) {
	for _, s := range []string{"fn m(){loop 1{}}", "fn m(){loop 1{say 1;}}", "fn m(){say 2;loop 1{loop 0{}}}", "fn m(){let a=1;loop a{a=a+1;a=a-1;}say a;}", "fn f(){loop 7{}}fn m(){loop f(){}}", "fn f(){back 1;}fn m(){loop f(){}}", "fn m(){loop 1{loop 1{loop 1{loop 1{}}}}}", "fn m(){let a=1;loop a{a=a+2;}}"} {
		p := read(t, s)
		if end, fuel := checkRuns(t, p, nil), impl.FuelOf(p, nil); end != 3 || fuel != -1 {
			t.Errorf("the run of %q ends with %d, and takes %d of fuel", s, end, fuel)
		}
	}
	o, ok := impl.RunProgram(read(t, "fn m(){loop 1{say 9;}}"), nil, 4000)
	if !ok || o.End != 3 || len(o.Said) != 2000 {
		t.Errorf("an endless loop with the fuel 4000 says %d numbers, %v", len(o.Said), ok)
	}
}

// TestMostFuel has programs that take nearly as much fuel as there may be, and a little more.
func TestMostFuel(t *testing.T) {
	for extra, want := range map[int]int{30: 3999, 31: 4000, 32: -1, 33: -1} {
		p := program(fn("m", params("a", "b"), loop(variable("a"), let("c", variable("b")), loop(variable("c"), set("c", minus(variable("c"), num(1)))), set("a", minus(variable("a"), num(1))))))
		p.Fns[0].Body = append(p.Fns[0].Body, says(extra)...)
		in := []int{31, 62}
		end := checkRuns(t, p, in)
		if got := impl.FuelOf(p, in); got != want || (end == 0) != (want > 0) {
			t.Errorf("FuelOf with %d says is %d, the end %d; want %d", extra, got, end, want)
		}
		o, ok := impl.RunProgram(p, in, 4000)
		if less, _ := impl.RunProgram(p, in, 3999); !ok || o.End == 3 != (want < 0) || less.End == 3 != (want != 3999) {
			t.Errorf("with %d says the runs end with %d and %d", extra, o.End, less.End)
		}
	}
	if impl.MaxFuel != 4000 || impl.MaxCells != 16 || [4]int{impl.EndBack, impl.EndDivide, impl.EndCell, impl.EndFuel} != [4]int{0, 1, 2, 3} {
		t.Error("the limits or the ends are others")
	}
	for _, s := range []string{"fn m(){}", "fn m(){back 3;}", "fn m(){loop 1{}}", "fn m(){say 1/0;}"} {
		p := read(t, s)
		for _, fuel := range []int{math.MinInt, -4000, -1, 0, 1, 3999, 4000, 4001, 8000, math.MaxInt} {
			if o, ok := impl.RunProgram(p, nil, fuel); ok != (fuel >= 0 && fuel <= 4000) || !ok && (o.End != 0 || o.Value != 0 || len(o.Said)+len(o.Cells) > 0) {
				t.Errorf("RunProgram(%q) with the fuel %d is %v, %v", s, fuel, o, ok)
			}
		}
	}
}

func TestNumbersThatAreHanded(t *testing.T) {
	names := params("a", "b", "c")
	for n := range 4 {
		f := fn("m", names[:n])
		for i := range n {
			f.Body = append(f.Body, say(variable(names[i])))
		}
		other := fn("f", params("a", "b")[:(n+1)%3])
		for _, p := range []impl.Program{program(f), program(other, f)} {
			for length := range 6 {
				in := []int{0, 255, 7, 1, 2}[:length]
				if end := checkRuns(t, p, in); end != 0 && length == n || end != -1 && length != n {
					t.Errorf("with %v, %v ends with %d", in, p, end)
				}
			}
			for i := range n {
				for _, bad := range []int{math.MinInt, -256, -1, 0, 1, 254, 255, 256, 257, 1 << 32, math.MaxInt} {
					in := []int{3, 3, 3}[:n]
					in[i] = bad
					if end := checkRuns(t, p, in); end != 0 && bad >= 0 && bad < 256 || end != -1 && (bad < 0 || bad > 255) {
						t.Errorf("with %v, %v ends with %d", in, p, end)
					}
				}
			}
		}
	}
	great := make([]int, 1000000)
	if _, ok := impl.RunProgram(mainOf(), great, 1); ok || impl.FuelOf(mainOf(), great) != -1 {
		t.Error("a million numbers are handed to a function without Params")
	}
}

// TestAllPairs has each op between two, of all pairs of values.
func TestAllPairs(t *testing.T) {
	names := []string{"a", "b"}
	for o, sign := range twoSigns {
		e := op(o, variable("a"), variable("b"))
		for a := range 256 {
			for b := range 256 {
				want, fine := between(sign, a, b)
				got, end := impl.EvalExpr(e, names, []int{a, b})
				if fine && (got != want || end != 0) || !fine && (got != 0 || end != 1) {
					t.Fatalf("EvalExpr of %d %s %d = %d, %d; want %d, %v", a, sign, b, got, end, want, fine)
				}
			}
		}
		p := program(fn("m", names, back(e)))
		for _, in := range [][]int{{0, 0}, {0, 255}, {255, 0}, {255, 255}, {1, 2}, {200, 100}, {16, 16}, {17, 5}} {
			checkRuns(t, p, in)
		}
	}
}

func TestEvalExpr(t *testing.T) {
	names, values := []string{"a", "b", "a", "c", "d"}, []int{16, 17, 99, 0, 255}
	for s, want := range map[string][2]int{
		"7": {7, 0}, "a": {16, 0}, "b": {17, 0}, "c": {0, 0}, "d": {255, 0}, "a*b+!a": {16, 0}, "a+a": {32, 0}, "d+d": {254, 0}, "c-a": {240, 0}, "(a+b)*(a-b)": {223, 0}, "!(a<b)": {0, 0}, "b/a": {1, 0}, "d%a": {15, 0},
		"a/c": {0, 1}, "a%c": {0, 1}, "c&a/c": {0, 0}, "b&a/c": {0, 1}, "a/c&c": {0, 1}, "1+2*(3/c)": {0, 1}, "c/c=0": {0, 1}, "a/(c&1)": {0, 1}, "!(a/c)": {0, 1},
		"e": {-1, -1}, "a+e": {-1, -1}, "c&e": {-1, -1}, "a/c+e": {-1, -1}, "@a": {-1, -1}, "c&@a": {-1, -1}, "a/c+@0": {-1, -1}, "f()": {-1, -1}, "c&f()": {-1, -1}, "f(a)": {-1, -1}, "a/c*f(a)": {-1, -1}, "a(b)": {-1, -1}, "!!!@1": {-1, -1}, "c&(c&(c&@c))": {-1, -1},
	} {
		e, ok := wantRead(s)
		if got, end := impl.EvalExpr(e, names, values); !ok || got != want[0] || end != want[1] {
			t.Errorf("EvalExpr(%q) = %d, %d; want %v", s, got, end, want)
		}
		checkEval(t, e, names, values)
	}
}

// TestEvalExprNames has names and values that do not fit, or of which nothing is used.
func TestEvalExprNames(t *testing.T) {
	a, one := variable("a"), num(1)
	for _, c := range []struct {
		e      impl.Expr
		names  []string
		values []int
		want   [2]int
	}{
		{one, nil, nil, [2]int{1, 0}}, {one, []string{}, []int{}, [2]int{1, 0}}, {a, nil, nil, [2]int{-1, -1}},
		{one, []string{"a"}, nil, [2]int{-1, -1}}, {one, nil, []int{1}, [2]int{-1, -1}}, {a, []string{"a"}, []int{1, 2}, [2]int{-1, -1}}, {a, []string{"a", "b"}, []int{1}, [2]int{-1, -1}},
		{a, []string{"a"}, []int{0}, [2]int{0, 0}}, {a, []string{"a"}, []int{255}, [2]int{255, 0}}, {a, []string{"a"}, []int{256}, [2]int{-1, -1}}, {a, []string{"a"}, []int{-1}, [2]int{-1, -1}}, {a, []string{"a"}, []int{math.MinInt}, [2]int{-1, -1}}, {a, []string{"a"}, []int{math.MaxInt}, [2]int{-1, -1}},
		{one, []string{"a"}, []int{256}, [2]int{-1, -1}}, {one, []string{"a"}, []int{-1}, [2]int{-1, -1}}, {a, []string{"a", "b"}, []int{1, 256}, [2]int{-1, -1}}, {a, []string{"a", "a"}, []int{1, 300}, [2]int{-1, -1}}, {a, []string{"b", "a"}, []int{-5, 1}, [2]int{-1, -1}},
		{a, []string{"a", "a"}, []int{1, 2}, [2]int{1, 0}}, {a, []string{"b", "a", "a", "b", "a"}, []int{9, 1, 2, 3, 4}, [2]int{1, 0}}, {a, []string{"b", "aa", "a"}, []int{9, 8, 7}, [2]int{7, 0}}, {a, []string{"b", "aa"}, []int{9, 8}, [2]int{-1, -1}},
		{a, []string{"", "A", "fn", "a", "abcde", "\xff"}, []int{1, 2, 3, 4, 5, 6}, [2]int{4, 0}}, {one, []string{"", "1"}, []int{1, 2}, [2]int{1, 0}}, {a, []string{"", "1"}, []int{1, 2}, [2]int{-1, -1}},
		{variable(""), []string{""}, []int{1}, [2]int{-1, -1}}, {variable("fn"), []string{"fn"}, []int{1}, [2]int{-1, -1}}, {variable("A"), []string{"A"}, []int{1}, [2]int{-1, -1}}, {num(256), nil, nil, [2]int{-1, -1}}, {impl.Expr{}, nil, nil, [2]int{-1, -1}}, {plus(one, impl.Expr{}), nil, nil, [2]int{-1, -1}},
		{op(10, num(0), impl.Expr{}), nil, nil, [2]int{-1, -1}}, {op(10, num(0), num(256)), nil, nil, [2]int{-1, -1}}, {nots(11, 5), []string{"a"}, []int{0}, [2]int{1, 0}}, {nots(11, 6), []string{"a"}, []int{0}, [2]int{-1, -1}}, {full(4), nil, nil, [2]int{8, 0}}, {full(5), nil, nil, [2]int{-1, -1}},
		{endless(3, 11), []string{"a"}, []int{1}, [2]int{-1, -1}},
	} {
		if got, end := impl.EvalExpr(c.e, c.names, c.values); got != c.want[0] || end != c.want[1] {
			t.Errorf("EvalExpr(%v, %q, %v) = %d, %d; want %v", c.e.Op, c.names, c.values, got, end, c.want)
		}
	}
	names, values := make([]string, 100000), make([]int, 100000)
	names[77777], values[77777] = "a", 5
	if got, end := impl.EvalExpr(a, names, values); got != 5 || end != 0 {
		t.Errorf("EvalExpr with a great many names = %d, %d", got, end)
	}
}

func TestEvalOfSmallExpressions(t *testing.T) {
	ends := map[int]int{}
	leaves := []impl.Expr{num(0), num(3), num(255), variable("a"), variable("b"), variable("e"), nots(12, 1), call("a")}
	inner := slices.Clone(leaves)
	for _, x := range leaves[:6] {
		for _, y := range leaves {
			for o := 3; o <= 10; o++ {
				inner = append(inner, op(o, x, y))
			}
		}
	}
	values := [][]int{{0, 0, 1}, {1, 2, 3}, {255, 16, 7}, {3, 0, 0}}
	for i, e := range inner {
		for _, in := range values {
			ends[checkEval(t, e, []string{"b", "a", "b"}, in)]++
			ends[checkEval(t, op(3+i%8, e, inner[(i*7+3)%len(inner)]), []string{"b", "a", "b"}, in)]++
			ends[checkEval(t, op(10, inner[(i*5+1)%len(inner)], not(e)), []string{"a", "b", "b", "e"}, append(in, 9))]++
		}
	}
	for _, end := range []int{-1, 0, 1} {
		if ends[end] < 150 {
			t.Errorf("%d small expressions have the end %d", ends[end], end)
		}
	}
}

func TestEvalOfRandomExpressions(t *testing.T) {
	rnd := rand.New(rand.NewSource(51))
	ends := map[int]int{}
	m := maker{rnd: rnd, calm: true, blocks: [][]string{{"a", "b", "c"}}}
	for i := range 12000 {
		e := m.expr(1 + rnd.Intn(6))
		if i%3 == 0 {
			e = someExpr(rnd, 1+rnd.Intn(6))
		}
		for range 2 {
			ends[checkEval(t, e, []string{"c", "b", "a", "f", "a"}, []int{rnd.Intn(3), rnd.Intn(256), rnd.Intn(5), 4, 2})]++
		}
		if _, end := impl.EvalExpr(e, []string{"a", "b", "c"}, []int{1, 2, 3}); end < 0 {
			continue
		}
		p := program(fn("m", params("a", "b", "c"), back(e)))
		got, end := impl.EvalExpr(e, []string{"a", "b", "c"}, []int{1, 2, 3})
		if o, ok := impl.RunProgram(p, []int{1, 2, 3}, 1); !ok || o.Value != got || o.End != end {
			t.Fatalf("the value of %v is %d, %d, but it runs as %v, %v", e, got, end, o, ok)
		}
	}
	for end, least := range map[int]int{-1: 3000, 0: 5000, 1: 500} {
		if ends[end] < least {
			t.Errorf("%d random expressions have the end %d", ends[end], end)
		}
	}
}

func TestSameOutcome(t *testing.T) {
	list := []impl.Outcome{
		{}, {End: 1}, {End: -1}, {End: 4}, {Value: 1}, {Value: -1}, {Said: []int{0}}, {Said: []int{0, 0}}, {Said: []int{1, 0}}, {Said: []int{0, 1}}, {Said: []int{-1}}, {Cells: []int{0}}, {Cells: make([]int, 16)}, {Cells: make([]int, 15)}, {Cells: []int{0, 1}}, {Cells: []int{1, 0}},
		{Said: []int{0}, Cells: []int{0}}, {Said: []int{1, 2}, End: 2, Value: 3, Cells: []int{4, 5}}, {Said: []int{1, 2, 4}, End: 2, Value: 3, Cells: []int{5}}, {Said: []int{1, 2}, End: 3, Value: 2, Cells: []int{4, 5}}, {Said: []int{1, 2}, End: 2, Value: 3, Cells: []int{4, 6}}, {End: math.MinInt, Value: math.MaxInt},
	}
	for i, a := range list {
		for k, b := range list {
			b.Said, b.Cells = slices.Clone(b.Said), slices.Clone(b.Cells)
			if got := impl.SameOutcome(a, b); got != (i == k) {
				t.Errorf("SameOutcome(%v, %v) is %v", a, b, got)
			}
		}
	}
	if none, empty := (impl.Outcome{}), (impl.Outcome{Said: []int{}, Cells: []int{}}); !impl.SameOutcome(none, empty) || !impl.SameOutcome(empty, none) {
		t.Error("an outcome with empty lists is not the same as one with none")
	}
}

func TestOutcomeText(t *testing.T) {
	for _, c := range []struct {
		o    impl.Outcome
		want string
	}{
		{impl.Outcome{}, "back 0"}, {impl.Outcome{Value: 255}, "back 255"}, {impl.Outcome{Value: -7}, "back -7"}, {impl.Outcome{Value: 1 << 40}, "back 1099511627776"},
		{impl.Outcome{End: 1}, "divide"}, {impl.Outcome{End: 2}, "cell"}, {impl.Outcome{End: 3}, "fuel"}, {impl.Outcome{End: 1, Value: 9}, "divide"}, {impl.Outcome{End: 2, Value: 9}, "cell"}, {impl.Outcome{End: 3, Value: 9}, "fuel"},
		{impl.Outcome{End: 4}, "what"}, {impl.Outcome{End: -1, Value: 5}, "what"}, {impl.Outcome{End: math.MaxInt}, "what"}, {impl.Outcome{End: math.MinInt}, "what"}, {impl.Outcome{End: 256}, "what"}, {impl.Outcome{End: 1 << 32}, "what"},
		{impl.Outcome{Said: []int{0}}, "0 back 0"}, {impl.Outcome{Said: []int{1, 2, 3}, Value: 4}, "1 2 3 back 4"}, {impl.Outcome{Said: []int{255, -1, 256}, End: 7}, "255 -1 256 what"}, {impl.Outcome{Said: []int{math.MinInt}, End: 1}, "-9223372036854775808 divide"},
		{impl.Outcome{Cells: make([]int, 16)}, "back 0"}, {impl.Outcome{Cells: []int{1}}, "back 0 0=1"}, {impl.Outcome{Cells: []int{0, 0, 5, 0, 255}}, "back 0 2=5 4=255"}, {impl.Outcome{Cells: []int{-1, 0, 300}, End: 3}, "fuel 0=-1 2=300"},
		{impl.Outcome{Cells: append(make([]int, 19), 3, 0, 4)}, "back 0 19=3 21=4"}, {impl.Outcome{Said: []int{9}, End: 2, Cells: []int{0, 7}}, "9 cell 1=7"}, {impl.Outcome{Said: []int{9}, End: 9, Cells: []int{0, 7}}, "9 what 1=7"},
	} {
		if got := impl.OutcomeText(c.o); got != c.want || got != wantOutcomeText(c.o) {
			t.Errorf("OutcomeText(%v) = %q; want %q", c.o, got, c.want)
		}
	}
	great := impl.OutcomeText(impl.Outcome{Said: make([]int, 1000000), Cells: make([]int, 1000000)})
	if great != strings.Repeat("0 ", 1000000)+"back 0" {
		t.Errorf("the text of a great outcome has %d bytes", len(great))
	}
}

func TestRunsOfSmallPrograms(t *testing.T) {
	ends := map[int]int{}
	list := smallStmts()
	for i, s := range list {
		checkInputs(t, mainOf(s), ends)
		for k, r := range list {
			if (i+k)%3 == 0 {
				checkInputs(t, program(fn("m", params("a", "b"), s, r, back(variable("b")))), ends)
			}
		}
	}
	a, b := variable("a"), variable("b")
	simple := []impl.Stmt{say(op(6, a, b)), say(op(12, b)), put(a, b), put(b, op(7, b, a)), back(b), set("a", minus(a, num(1))), do(call("f", a, b)), say(call("f", b, a)), when(a, block(back(a)), block(say(b))), loop(op(8, a, num(3)), set("a", plus(a, num(1)))), loop(b, back(a)), loop(a, set("a", num(0)))}
	for _, s := range simple {
		for _, r := range simple {
			p := program(fn("f", params("b", "a"), put(num(1), a), say(op(6, a, b)), back(plus(a, op(12, b)))), fn("m", params("a", "b"), s, r, loop(a, s, set("a", minus(a, num(1))), r)))
			checkInputs(t, p, ends)
			ends[checkRuns(t, p, []int{2, 1})]++
			ends[checkRuns(t, p, []int{5, 0})]++
		}
	}
	for _, end := range []int{-1, 0, 1, 2, 3} {
		if ends[end] < 30 {
			t.Errorf("%d small programs have the end %d", ends[end], end)
		}
	}
}

func TestRunsOfRandomPrograms(t *testing.T) {
	ends := map[int]int{}
	for _, m := range []maker{{rnd: rand.New(rand.NewSource(52)), calm: true}, {rnd: rand.New(rand.NewSource(53))}, {rnd: rand.New(rand.NewSource(54)), wrong: 30}} {
		for range 400 {
			p := m.program()
			checkInputs(t, p, ends)
			in := []int{m.rnd.Intn(4), m.rnd.Intn(4), m.rnd.Intn(256)}
			ends[checkRuns(t, p, in[:len(p.Fns[len(p.Fns)-1].Params)])]++
		}
	}
	for end, least := range map[int]int{-1: 100, 0: 500, 1: 100, 2: 100, 3: 100} {
		if ends[end] < least {
			t.Errorf("%d random programs have the end %d", ends[end], end)
		}
	}
}

// TestRunsOfProgramsThatAreWrong has programs of each fault, and such as are not valid.
func TestRunsOfProgramsThatAreWrong(t *testing.T) {
	for _, s := range []string{
		"fn f(){}fn f(){}", "fn m(a,a){}", "fn m(){let a=1;let a=2;}", "fn m(){say a;}", "fn m(){back 1;say a;}", "fn m(){a=1;}", "fn m(){let a=a;}", "fn m(){if 0{let a=1;}say a;}", "fn m(){do m();}", "fn m(){say f();}", "fn m(){do f();}fn f(){}", "fn f(a){}fn m(){do f();}", "fn f(){}fn m(){say 0&f(1);}", "fn f(){say a;}fn m(){}",
	} {
		p := read(t, s)
		for _, in := range [][]int{nil, {1}, {1, 2}} {
			o, ok := impl.RunProgram(p, in, 100)
			if ok || o.End != 0 || o.Value != 0 || len(o.Said)+len(o.Cells) > 0 || impl.FuelOf(p, in) != -1 || len(impl.InputsFor(p)) > 0 {
				t.Errorf("RunProgram(%q) = %v, %v", s, o, ok)
			}
		}
		checkInputs(t, p, map[int]int{})
	}
	for i, p := range []impl.Program{
		{}, {Fns: []impl.Fn{}}, {Fns: []impl.Fn{{}}}, program(fn("m", params("a", "b", "c", "d"))), program(fn("f", nil), fn("g", nil), fn("h", nil), fn("i", nil), fn("m", nil)), mainOf(says(41)...), mainOf(within(4, say(num(1)))), mainOf(impl.Stmt{}), mainOf(say(num(256))), mainOf(back(num(1)), say(num(-1))), mainOf(do(num(1))), mainOf(say(nots(11, 6))),
		ring(1, 5, false), ring(3, 6, false), mainOf(say(endless(3, 11))), {Fns: make([]impl.Fn, 100000)},
	} {
		o, ok := impl.RunProgram(p, nil, 10)
		if ok || len(o.Said)+len(o.Cells) > 0 || o.End != 0 || o.Value != 0 || impl.FuelOf(p, nil) != -1 || len(impl.InputsFor(p)) > 0 {
			t.Errorf("the program %d, which is not valid, runs as %v, %v", i, o, ok)
		}
	}
	ends := map[int]int{}
	for i, p := range otherPrograms(read(t, "fn f(a){back 7/a;}fn m(b){let a=f(b);if a{let b=a;say b;}else{put 16,a;}loop b{b=b-1;do f(b);}}")) {
		if i%3 == 0 {
			checkInputs(t, p, ends)
		}
	}
	if ends[-1] < 300 || ends[0] < 5 || ends[1] < 5 {
		t.Errorf("the changed programs have the ends %v", ends)
	}
}

// TestRunsOfMostPrograms has programs that are as great as they may be.
func TestRunsOfMostPrograms(t *testing.T) {
	ends := map[int]int{}
	for _, p := range []impl.Program{mainOf(says(40)...), mainOf(within(3, say(num(1)))), program(fn("m", params("a"), within(3, say(num(1))))), program(fn("m", params("a", "b", "c"), lets(40)...)), mainOf(say(full(4))), program(fn("m", params("a"), say(nots(11, 5)), say(withParts(30)))), program(fn("f", nil), fn("g", nil), fn("h", nil), fn("m", nil, do(call("f")), do(call("g")), do(call("h"))))} {
		checkInputs(t, p, ends)
		ends[checkRuns(t, p, []int{3})]++
	}
	// as many variables as there can be are all of them others
	p := program(fn("m", params("a", "b", "c"), lets(40)...))
	p.Fns[0].Body[39] = back(variable(p.Fns[0].Body[0].Name))
	ends[checkRuns(t, p, []int{1, 2, 3})]++
	// many calls take no fuel but that of the statement
	many := call("f")
	many = op(10, not(many), op(10, not(many), op(10, not(many), not(many))))
	q := program(fn("f", nil), fn("m", nil, loop(many)))
	if o, ok := impl.RunProgram(q, nil, 4000); !ok || o.End != 3 {
		t.Errorf("many calls run as %v, %v", o, ok)
	}
	ends[checkRuns(t, q, nil)]++
	if ends[0] < 10 || ends[3] < 1 {
		t.Errorf("the ends are %v", ends)
	}
}

func TestMeaningResultsAreTheirOwn(t *testing.T) {
	for _, s := range []string{"fn m(){}", "fn m(a,b,c){say a;put b,c;back 3;}", "fn f(a){say a;back a;}fn m(a,b,c){say f(a)+f(b);put c,c;}", "fn m(a){loop 1{say a;}}", "fn m(a,b){say a;say b;say 1/0;}"} {
		p := read(t, s)
		in := []int{4, 5, 6}[:len(p.Fns[len(p.Fns)-1].Params)]
		o, _ := impl.RunProgram(p, in, 50)
		again, _ := impl.RunProgram(p, in, 50)
		lists, others := impl.InputsFor(p), impl.InputsFor(p)
		if shareMemory(in, o, again, lists, others) {
			t.Errorf("results of %q share memory: %v, %v", s, o, lists)
		}
		text := impl.OutcomeText(again)
		for _, list := range append(lists, o.Said, o.Cells) {
			for i := range list[:cap(list)] {
				list[:cap(list)][i] = 77
			}
		}
		if third, _ := impl.RunProgram(p, in, 50); impl.OutcomeText(third) != text || !reflect.DeepEqual(impl.InputsFor(p), others) {
			t.Errorf("the results of %q depend on earlier ones", s)
		}
	}
}

// TestMeaningLeavesMemoryAlone has lists with more memory behind them, which is not to be written.
func TestMeaningLeavesMemoryAlone(t *testing.T) {
	numbers, names := []int{1, 2, 3, 4, 5}, []string{"a", "b", "c", "d"}
	body := []impl.Stmt{set("a", plus(variable("a"), variable("b"))), say(variable("a")), back(variable("b")), {Op: 79}}
	p := program(fn("m", names[:2], body[:3]...))
	e := plus(variable("a"), variable("b"))
	said, cells := []int{1, 2, 3}, []int{4, 5, 6}
	before := fmt.Sprint(numbers, names, body, said, cells)
	for range 3 {
		checkRuns(t, p, numbers[:2])
		checkEval(t, e, names[:2], numbers[:2])
		impl.OutcomeText(impl.Outcome{Said: said[:1], Cells: cells[:1]})
		impl.SameOutcome(impl.Outcome{Said: said[:2]}, impl.Outcome{Said: said[:1], Cells: cells[:2]})
		impl.InputsFor(p)
	}
	if after := fmt.Sprint(numbers, names, body, said, cells); after != before {
		t.Errorf("what was given became %s", after)
	}
}
