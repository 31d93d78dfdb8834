package tests

import (
	"math"
	"math/rand"
	"reflect"
	"slices"
	"strings"
	"testing"

	"loop.example/wholeway/impl"
)

// The scopes of the document's chapter 4, told a second time and in another way than the program tells them: by the
// words of a program alone, from the first one to the last one.
type scan struct {
	words   []string
	code    int         // the first fault, 0 if there is none
	numbers []int       // of each word that is a variable its number in its function, else -1
	vars    []int       // of each function how many variables it has
	calls   [][]int     // of each function those that it calls
	fns     []string    // names of functions
	takes   []int       // of each function how many Params it has
	usable  []usableVar // variables that can be used, the nearest ones last
	depth   int         // in how many blocks the word stands
	wait    func()      // what is done at the end of the statement
}

// usableVar is a variable that can be used up to the end of the block that is so deep.
type usableVar struct {
	name   string
	number int
	depth  int
}

func (s *scan) fault(code int) {
	if s.code == 0 {
		s.code = code
	}
}

// wordAt is a word, and the empty string where there is none.
func (s *scan) wordAt(i int) string {
	if i < 0 || i >= len(s.words) {
		return ""
	}
	return s.words[i]
}

// begin is at the name of a function.
func (s *scan) begin(i int) {
	if slices.Contains(s.fns, s.words[i]) {
		s.fault(2)
	}
	s.fns, s.takes, s.vars, s.calls = append(s.fns, s.words[i]), append(s.takes, 0), append(s.vars, 0), append(s.calls, nil)
}

// makes is at the name of a new variable, in a block that is so deep.
func (s *scan) makes(i int, depth int) {
	for _, v := range s.usable {
		if v.name == s.words[i] && v.depth == depth {
			s.fault(2)
		}
	}
	f := len(s.fns) - 1
	s.numbers[i] = s.vars[f]
	s.usable = append(s.usable, usableVar{s.words[i], s.vars[f], depth})
	s.vars[f]++
}

func (s *scan) uses(i int) {
	for _, v := range s.usable {
		if v.name == s.words[i] {
			s.numbers[i] = v.number
		}
	}
	if s.numbers[i] < 0 {
		s.fault(3)
	}
}

func (s *scan) callsAt(i int) {
	f := len(s.fns) - 1
	k := slices.Index(s.fns[:f], s.words[i])
	if k < 0 {
		s.fault(4)
		return
	}
	kids, open := 1, 0
	if s.wordAt(i+2) == ")" {
		kids = 0
	}
	for _, w := range s.words[i+2:] {
		switch {
		case w == "(":
			open++
		case w == ")":
			open--
		case w == "," && open == 0:
			kids++
		}
		if open < 0 {
			break
		}
	}
	if kids != s.takes[k] {
		s.fault(5)
	}
	if !slices.Contains(s.calls[f], k) {
		s.calls[f] = append(s.calls[f], k)
	}
}

// leave goes out of a block.
func (s *scan) leave() {
	s.usable = slices.DeleteFunc(s.usable, func(v usableVar) bool { return v.depth == s.depth })
	s.depth--
}

func (s *scan) word(i int) {
	w, before, behind := s.words[i], s.wordAt(i-1), s.wordAt(i+1)
	isName := wantValid(name(w))
	switch {
	case w == "{":
		s.depth++
	case w == "}":
		s.leave()
	case w == ";" && s.wait != nil:
		s.wait()
		s.wait = nil
	case !isName:
	case before == "fn":
		s.begin(i)
	case behind == "(":
		s.callsAt(i)
	case s.depth == 0:
		s.makes(i, 1)
		s.takes[len(s.fns)-1]++
	case before == "let":
		s.wait = func() { s.makes(i, s.depth) }
	case before == ";" || before == "{" || before == "}":
		s.wait = func() { s.uses(i) }
	default:
		s.uses(i)
	}
}

// scanOf is what the words of a program tell.
func scanOf(p impl.Program) *scan {
	s := &scan{}
	if !wantProgramValid(p) {
		s.code = 1
		return s
	}
	s.words = strings.Fields(wantWords(p))
	s.numbers = slices.Repeat([]int{-1}, len(s.words))
	for i := range s.words {
		s.word(i)
	}
	for _, list := range s.calls {
		slices.Sort(list)
	}
	return s
}

// renamed are the words with the names that variables are to be given; false if there are too many.
func (s *scan) renamed() ([]string, bool) {
	words := slices.Clone(s.words)
	for i, n := range s.numbers {
		if n >= 26 {
			return nil, false
		}
		if n >= 0 {
			words[i] = "v" + "abcdefghijklmnopqrstuvwxyz"[n:n+1]
		}
	}
	return words, true
}

// needed are the functions without which the last one cannot be.
func (s *scan) needed() []int {
	need := make([]bool, len(s.fns))
	need[len(need)-1] = true
	for range s.fns {
		for f, list := range s.calls {
			for _, k := range list {
				need[k] = need[k] || need[f]
			}
		}
	}
	var list []int
	for f := range need {
		if need[f] {
			list = append(list, f)
		}
	}
	return list
}

// checkScopes compares all that the program tells of the names of a program, valid or not, with what it should tell, and
// checks promise 4 on it. It returns what is wrong with the program.
func checkScopes(t *testing.T, p impl.Program) int {
	t.Helper()
	before := plainProgram(p)
	want := scanOf(p)
	if got := impl.CheckProgram(p); got != want.code {
		t.Fatalf("CheckProgram(%v) = %d; want %d", p, got, want.code)
	}
	if want.code != 0 {
		checkNoScopes(t, p)
	} else {
		checkCalls(t, p, want)
		checkRenamed(t, p, want)
	}
	if !equalPrograms(p, before) {
		t.Fatalf("%v became %v", before, p)
	}
	return want.code
}

// someIndexes are those of a list of so many items, and others.
func someIndexes(n int) []int {
	list := []int{math.MinInt, -1 << 32, -2, -1, n, n + 1, 1 << 32, math.MaxInt}
	for k := range n {
		list = append(list, k)
	}
	return list
}

// checkNoScopes checks all functions on a program with which something is wrong.
func checkNoScopes(t *testing.T, p impl.Program) {
	t.Helper()
	if d, ok := impl.DropUnneeded(p); ok || len(d.Fns) > 0 {
		t.Fatalf("DropUnneeded(%v) = %v, %v", p, d, ok)
	}
	if r, ok := impl.RenameProgram(p); ok || len(r.Fns) > 0 {
		t.Fatalf("RenameProgram(%v) = %v, %v", p, r, ok)
	}
	if impl.IsRenamed(p) || len(impl.NeededIn(p)) > 0 {
		t.Fatalf("%v is renamed, or needs functions", p)
	}
	for _, k := range someIndexes(len(p.Fns)) {
		if calls, n := impl.CalledBy(p, k), impl.CountVars(p, k); len(calls) > 0 || n != -1 {
			t.Fatalf("CalledBy and CountVars of %v, %d are %v and %d", p, k, calls, n)
		}
	}
}

// checkCalls compares what is called and needed of a program with which nothing is wrong, and how many variables it has.
func checkCalls(t *testing.T, p impl.Program, want *scan) {
	t.Helper()
	for _, k := range someIndexes(len(p.Fns)) {
		calls, vars := []int(nil), -1
		if k >= 0 && k < len(p.Fns) {
			calls, vars = want.calls[k], want.vars[k]
		}
		if got := impl.CalledBy(p, k); !slices.Equal(got, calls) {
			t.Fatalf("CalledBy(%v, %d) = %v; want %v", p, k, got, calls)
		}
		if got := impl.CountVars(p, k); got != vars {
			t.Fatalf("CountVars(%v, %d) = %d; want %d", p, k, got, vars)
		}
	}
	needed := want.needed()
	if got := impl.NeededIn(p); !slices.Equal(got, needed) {
		t.Fatalf("NeededIn(%v) = %v; want %v", p, got, needed)
	}
	var kept impl.Program
	for _, k := range needed {
		kept.Fns = append(kept.Fns, p.Fns[k])
	}
	if got, ok := impl.DropUnneeded(p); !ok || !equalPrograms(got, kept) {
		t.Fatalf("DropUnneeded(%v) = %v, %v; want %v", p, got, ok, kept)
	}
}

// checkRenamed compares the renamed program of one with which nothing is wrong, and checks that each variable has a name
// of its own there, and that each name means what it meant.
func checkRenamed(t *testing.T, p impl.Program, want *scan) {
	t.Helper()
	words, wantOk := want.renamed()
	got, ok := impl.RenameProgram(p)
	if is := impl.IsRenamed(p); is != (wantOk && slices.Equal(words, want.words)) {
		t.Fatalf("IsRenamed(%v) is %v", p, is)
	}
	if ok != wantOk || !ok && len(got.Fns) > 0 {
		t.Fatalf("RenameProgram(%v) = %v, %v", p, got, ok)
	}
	if !ok {
		return
	}
	if !wantProgramValid(got) || wantWords(got) != strings.Join(words, " ") {
		t.Fatalf("RenameProgram(%v) = %v; want %q", p, got, words)
	}
	if impl.CheckProgram(got) != 0 || !impl.IsRenamed(got) {
		t.Fatalf("RenameProgram(%v) = %v, which is not renamed", p, got)
	}
	if again, ok := impl.RenameProgram(got); !ok || !equalPrograms(again, got) {
		t.Fatalf("%v is renamed to %v", got, again)
	}
	after := scanOf(got)
	if after.code != 0 || !slices.Equal(after.numbers, want.numbers) {
		t.Fatalf("%v is renamed to %v, which means other variables", p, got)
	}
	for k, f := range got.Fns {
		names := slices.Clone(f.Params)
		for _, s := range placedIn(f.Body, 1) {
			if s.Op == 1 {
				names = append(names, s.Name)
			}
		}
		if n := len(names); n != want.vars[k] || n != len(slices.Compact(names)) || !slices.IsSorted(names) {
			t.Fatalf("the variables of %v are %q", got, names)
		}
	}
}

// maker makes random programs with which little is wrong, or nothing.
type maker struct {
	rnd    *rand.Rand
	wrong  int  // one in so many names is any one; 0 if none is
	calm   bool // most numbers are small then, and most loops count down
	fns    []impl.Fn
	blocks [][]string
	left   int
}

// loose tells now and then that anything may be taken.
func (m *maker) loose() bool { return m.wrong > 0 && m.rnd.Intn(m.wrong) == 0 }

func (m *maker) any() string { return []string{"a", "b", "c", "d", "va", "vb", "f"}[m.rnd.Intn(7)] }

// used is a variable that can be used, if there is one.
func (m *maker) used() (string, bool) {
	list := slices.Concat(m.blocks...)
	if m.loose() {
		return m.any(), true
	}
	if len(list) == 0 {
		return "", false
	}
	return list[m.rnd.Intn(len(list))], true
}

// fresh is a name that the innermost block does not have yet.
func (m *maker) fresh() string {
	last := len(m.blocks) - 1
	s := m.any()
	for n := 0; slices.Contains(m.blocks[last], s) && !m.loose(); n++ {
		s = m.any()
		if n > 20 {
			s = "x" + string(rune('a'+m.rnd.Intn(26))) + string(rune('a'+m.rnd.Intn(26)))
		}
	}
	return s
}

func (m *maker) begin(s string) {
	last := len(m.blocks) - 1
	m.blocks[last] = append(m.blocks[last], s)
}

func (m *maker) expr(deep int) impl.Expr {
	if deep == 1 || m.rnd.Intn(4) == 0 {
		if s, ok := m.used(); ok && m.rnd.Intn(4) > 0 {
			return variable(s)
		}
		return num(m.number())
	}
	switch o := 3 + m.rnd.Intn(12); {
	case o > 12:
		if e, ok := m.call(deep); ok {
			return e
		}
		return m.expr(deep - 1)
	case o > 10:
		return op(o, m.expr(deep-1))
	default:
		return op(o, m.expr(deep-1), m.expr(deep-1))
	}
}

func (m *maker) number() int {
	if m.calm && m.rnd.Intn(8) > 0 {
		return m.rnd.Intn(5)
	}
	return m.rnd.Intn(256)
}

func (m *maker) call(deep int) (impl.Expr, bool) {
	s, kids := []string{"f", "g", "h", "m", "va"}[m.rnd.Intn(5)], m.rnd.Intn(4)
	if !m.loose() {
		if len(m.fns) == 0 {
			return impl.Expr{}, false
		}
		f := m.fns[m.rnd.Intn(len(m.fns))]
		s = f.Name
		if !m.loose() {
			kids = len(f.Params)
		}
	}
	e := call(s)
	for range kids {
		e.Kids = append(e.Kids, m.expr(deep-1))
	}
	return e, true
}

func (m *maker) block(nest int) []impl.Stmt {
	m.blocks = append(m.blocks, nil)
	list := m.stmts(nest)
	m.blocks = m.blocks[:len(m.blocks)-1]
	return list
}

func (m *maker) stmts(nest int) []impl.Stmt {
	var list []impl.Stmt
	for range m.rnd.Intn(6) {
		if m.left == 0 || nest > 4 {
			break
		}
		m.left--
		if s, ok := m.stmt(nest); ok {
			list = append(list, s)
		}
	}
	return list
}

func (m *maker) stmt(nest int) (impl.Stmt, bool) {
	e := m.expr(1 + m.rnd.Intn(4))
	switch m.rnd.Intn(9) {
	case 0, 1:
		s := m.fresh()
		m.begin(s)
		return let(s, e), true
	case 2:
		s, ok := m.used()
		return set(s, e), ok
	case 3:
		return say(e), true
	case 4:
		return put(e, m.expr(2)), true
	case 5:
		return when(e, m.block(nest+1), m.block(nest+1)), true
	case 6:
		if s, ok := m.used(); ok && m.calm && m.left > 0 {
			m.left--
			return loop(variable(s), append(block(set(s, minus(variable(s), num(1)))), m.block(nest+1)...)...), nest < 4
		}
		return loop(e, m.block(nest+1)...), true
	case 7:
		return back(e), true
	default:
		c, ok := m.call(3)
		return do(c), ok
	}
}

// program is a random one of up to 4 functions.
func (m *maker) program() impl.Program {
	m.fns, m.left = nil, 40
	for range 1 + m.rnd.Intn(4) {
		f := impl.Fn{Name: []string{"f", "g", "h", "m", "va", "a"}[m.rnd.Intn(6)]}
		for slices.ContainsFunc(m.fns, func(g impl.Fn) bool { return f.Name == g.Name }) && !m.loose() {
			f.Name = []string{"f", "g", "h", "m", "va", "a"}[m.rnd.Intn(6)]
		}
		m.blocks = [][]string{nil}
		for range m.rnd.Intn(4) {
			s := m.fresh()
			m.begin(s)
			f.Params = append(f.Params, s)
		}
		f.Body = m.stmts(1)
		m.fns = append(m.fns, f)
	}
	return program(m.fns...)
}

// read is a program from a text that is known to be one.
func read(t *testing.T, s string) impl.Program {
	t.Helper()
	p, ok := wantReadProgram(s)
	if !ok {
		t.Fatalf("%q is no program", s)
	}
	return p
}

func TestScopeFaults(t *testing.T) {
	for code, texts := range [][]string{
		0: {
			"fn m(){}", "fn m(a){}", "fn m(a,b,c){}", "fn m(a){say a;a=1;}", "fn m(m){say m;}", "fn m(){let m=1;say m;}", "fn f(){}fn m(f){say f;do f();say f+f();}",
			"fn m(){let a=1;say a;}", "fn m(){let a=1;let b=a;a=b;}", "fn m(a){let b=a;let c=b;say a+b+c;}",
			"fn m(){let a=1;if a{let a=a;say a;}say a;}", "fn m(){let a=1;loop a{let a=2;a=a;}a=a;}", "fn m(){let a=1;if 1{}else{let a=a;}}", "fn m(a){if a{let a=a;}else{let a=a;}loop a{let a=a;}let b=a;}",
			"fn m(){if 1{let a=1;}else{let a=2;}let a=3;}", "fn m(){if 1{let a=1;}if 1{let a=1;}loop 1{let a=1;}}", "fn m(a){loop 1{loop 1{loop 1{let a=a;say a;}let a=a;}let a=a;}say a;}",
			"fn m(){let a=1;if a{if a{if a{say a;}}}}", "fn m(){loop 1{let a=1;say a;}let a=1;}", "fn m(){loop 1{let a=1;let b=a;loop b{let c=a+b;}}}",
			"fn f(){}fn m(){do f();}", "fn f(a){}fn m(){do f(1);}", "fn f(a,b,c){}fn m(){say f(1,2,3);}", "fn f(a){}fn g(a){back f(f(a));}fn h(a){say f(g(a));}fn m(a){say h(g(f(a)));}",
			"fn f(a){say a;}fn g(a){say a;}", "fn a(a){}fn b(a){let b=a(a);}", "fn f(){let a=1;}fn m(){let a=1;}", "fn m(){back 1;let a=1;say a;}", "fn f(a,b){}fn g(){}fn m(){say f(f(1,2),f(g(),4));}",
		},
		1: {},
		2: {
			"fn f(){}fn f(){}", "fn f(a){}fn f(a,b){}", "fn f(){}fn g(){}fn f(){}", "fn f(){}fn g(){}fn h(){}fn g(){}", "fn m(a,a){}", "fn m(a,b,a){}", "fn m(a,b,b){}", "fn m(a,a,b){}", "fn f(a,a){}fn m(){}",
			"fn m(){let a=1;let a=2;}", "fn m(){let a=1;say a;let b=a;let a=b;}", "fn m(a){let a=1;}", "fn m(a,b,c){let c=1;}", "fn m(a){say a;if a{}let a=1;}",
			"fn m(){if 1{let a=1;let a=2;}}", "fn m(){if 1{}else{let a=1;let a=2;}}", "fn m(){loop 1{let a=1;let a=a;}}", "fn m(a){loop 1{let a=1;say a;let a=1;}}", "fn m(){let a=1;loop a{let a=1;}let a=1;}", "fn m(){back 1;let a=1;let a=1;}",
		},
		3: {
			"fn m(){say a;}", "fn m(){a=1;}", "fn m(){let a=a;}", "fn m(){let a=1+a*2;}", "fn m(){let a=b;let b=1;}", "fn m(a){say b;}", "fn m(){say m;}", "fn f(){}fn m(){say f;}",
			"fn m(){if a{let a=1;}}", "fn m(){loop a{let a=1;}}", "fn m(){if 1{let a=1;}say a;}", "fn m(){if 1{let a=1;}else{say a;}}", "fn m(){if 1{}else{let a=1;}say a;}", "fn m(){loop 1{let a=1;}a=1;}",
			"fn m(){if 1{let a=1;}a=2;}", "fn m(){if 1{let a=1;}else{a=2;}}", "fn m(){if 1{say a;let a=1;}}", "fn m(){loop 1{a=1;let a=1;}}", "fn m(){loop 1{loop 1{let a=1;}say a;}}", "fn m(){if 1{let a=1;}if 1{say a;}}",
			"fn f(a){}fn m(){say a;}", "fn f(){let a=1;}fn m(){say a;}", "fn f(a){}fn m(){a=1;}", "fn f(a){}fn m(){say f(b);}", "fn f(a){}fn m(){do f(b);}", "fn m(){put a,1;}", "fn m(){put 1,a;}", "fn m(){back a;}", "fn m(){back 1;back a;}", "fn m(){say !@a;}", "fn m(){say 1+(2*a);}",
			"fn m(a){say aa;}", "fn m(ab){say a;}", "fn m(){a=a;}", "fn m(){let a=1;if a{let b=a;}say a;b=a;}",
		},
		4: {
			"fn m(){do m();}", "fn m(a){back m(a);}", "fn m(){do f();}fn f(){}", "fn f(){do g();}fn g(){}fn m(){}", "fn f(){}fn m(){do g();}", "fn m(f){say f();}", "fn m(){let f=1;say f(f);}", "fn m(){let f=f();}",
			"fn f(a){back f(a);}fn m(){}", "fn m(){if g(){}}", "fn m(){loop g(){}}", "fn m(){put 1,g();}", "fn m(){put g(),1;}", "fn m(){say !g();}", "fn m(){say 1+g();}", "fn m(){loop 1{if 1{}else{do g();}}}", "fn f(a){}fn m(){say f(g());}", "fn m(){a=g();}",
			"fn f(){}fn m(){do ff();}", "fn ff(){}fn m(){do f();}",
		},
		5: {
			"fn f(){}fn m(){do f(1);}", "fn f(a){}fn m(){do f();}", "fn f(a){}fn m(){do f(1,2);}", "fn f(a,b){}fn m(){do f(1);}", "fn f(a,b,c){}fn m(){do f(1,2);}", "fn f(a,b){}fn m(){do f(1,2,3);}", "fn f(a,b,c){}fn m(){do f();}", "fn f(){}fn m(){do f(1,2,3);}",
			"fn f(a){}fn m(){say f(f(1,2));}", "fn f(a){}fn m(){say f(f());}", "fn f(a){}fn m(){say f(1)+f();}", "fn f(a){}fn g(){}fn m(){say g()+f(1)+g(1);}", "fn f(a){}fn g(a,b){}fn m(){say f(1,2);}", "fn f(a){}fn m(){loop 1{if 1{}else{do f();}}}",
		},
	} {
		for _, s := range texts {
			if got := checkScopes(t, read(t, s)); got != code {
				t.Errorf("CheckProgram of %q is to be %d, not %d", s, code, got)
			}
		}
	}
}

// TestScopeFaultsInOrder has two faults in each program, of which the first one counts.
func TestScopeFaultsInOrder(t *testing.T) {
	for s, want := range map[string]int{
		// functions one behind the other, whatever is wrong in the later ones
		"fn f(){say a;}fn f(){}":               3,
		"fn f(){}fn f(){say a;}":               2,
		"fn f(){}fn f(a,a){do g();}":           2,
		"fn f(){do f();}fn g(a,a){}":           4,
		"fn f(a){do f();}fn f(){}":             4,
		"fn f(a,a){}fn g(){say b;}":            2,
		"fn f(){}fn g(){do f(1);}fn g(){}":     5,
		"fn f(){a=1;}fn g(){let a=1;let a=2;}": 3,
		// Params ahead of the Body
		"fn m(a,a){say b;}":       2,
		"fn m(a,a){do m();}":      2,
		"fn m(a){say b;let a=1;}": 3,
		// statements one behind the other
		"fn m(){say a;do g();}":                         3,
		"fn m(){do g();say a;}":                         4,
		"fn f(){}fn m(){do f(1);say a;do g();}":         5,
		"fn m(a){let a=1;say b;}":                       2,
		"fn m(a){b=1;let a=1;}":                         3,
		"fn m(){if 1{say a;}do g();}":                   3,
		"fn m(){if 1{do g();}say a;}":                   4,
		"fn m(){if 1{}else{do g();}say a;}":             4,
		"fn m(){loop 1{do g();}say a;}":                 4,
		"fn m(a){if 1{loop 1{let b=1;let b=2;}}say b;}": 2,
		// the Body ahead of the Else, and the Args ahead of both
		"fn m(){if 1{say a;}else{do g();}}":  3,
		"fn m(){if 1{do g();}else{say a;}}":  4,
		"fn m(){if a{do g();}else{do g();}}": 3,
		"fn m(){if g(){say a;}}":             4,
		"fn m(){loop a{do g();}}":            3,
		"fn m(){loop g(){say a;}}":           4,
		// the Args ahead of the Name
		"fn m(a){let a=b;}":            3,
		"fn m(a){let a=g();}":          4,
		"fn f(){}fn m(a){let a=f(1);}": 5,
		"fn m(){a=g();}":               4,
		"fn f(){}fn m(){a=f(1);}":      5,
		// the parts of the Args in the order of the text, a part ahead of its Kids
		"fn m(){say a+g();}":                3,
		"fn m(){say g()+a;}":                4,
		"fn m(){put a,g();}":                3,
		"fn m(){put g(),a;}":                4,
		"fn m(){say g(a);}":                 4,
		"fn f(){}fn m(){say f(a);}":         5,
		"fn f(){}fn m(){say f(g());}":       5,
		"fn f(a){}fn m(){say f(g(b));}":     4,
		"fn f(a){}fn m(){say f(b,g());}":    5,
		"fn f(a,b){}fn m(){say f(b,g());}":  3,
		"fn f(a,b){}fn m(){say f(g(),b);}":  4,
		"fn f(a,b){}fn m(){say f(f(1),b);}": 5,
		"fn f(){}fn m(){say (1+f(1))*a;}":   5,
		"fn f(){}fn m(){say a*(1+f(1));}":   3,
		"fn f(){}fn m(){say !(@a=f(1));}":   3,
		"fn f(){}fn m(){say f(1)&g()&a;}":   5,
		"fn f(){}fn m(){say 1-(g()-f(1));}": 4,
	} {
		if got := checkScopes(t, read(t, s)); got != want {
			t.Errorf("CheckProgram of %q is to be %d, not %d", s, want, got)
		}
	}
	// what is not valid comes first, wherever it is
	for _, s := range []string{"fn f(){say a;}fn f(){do g();}", "fn f(a,a){}fn m(){}", "fn f(){}fn m(){do f(1);}"} {
		p := read(t, s)
		p.Fns[1].Body = append(p.Fns[1].Body, impl.Stmt{Op: 9})
		if got := checkScopes(t, p); got != 1 {
			t.Errorf("CheckProgram of %q with no valid statement behind is %d", s, got)
		}
	}
}

func TestRenamedTexts(t *testing.T) {
	for s, want := range map[string]string{
		"fn m(){}":                              "fn m ( ) { }",
		"fn m(a){}":                             "fn m ( va ) { }",
		"fn m(c,b,a){say a-b-c;}":               "fn m ( va , vb , vc ) { say vc - vb - va ; }",
		"fn m(a){let b=a;if b{let a=1;say a;}}": "fn m ( va ) { let vb = va ; if vb { let vc = 1 ; say vc ; } }",
		"fn m(a){let b=a;if b{let a=a;a=a+1;say a;}say a;}":                         "fn m ( va ) { let vb = va ; if vb { let vc = va ; vc = vc + 1 ; say vc ; } say va ; }",
		"fn m(a){if a{let b=1;}else{let b=2;say b;}let b=3;say b;}":                 "fn m ( va ) { if va { let vb = 1 ; } else { let vc = 2 ; say vc ; } let vd = 3 ; say vd ; }",
		"fn m(a){loop a{let a=a;loop a{let a=a;a=a;}a=a;}a=a;}":                     "fn m ( va ) { loop va { let vb = va ; loop vb { let vc = vb ; vc = vc ; } vb = vb ; } va = va ; }",
		"fn m(vb,va){say va;say vb;}":                                               "fn m ( va , vb ) { say vb ; say va ; }",
		"fn m(vb){let va=vb;if va{let vb=vb+va;vb=va;}say vb;}":                     "fn m ( va ) { let vb = va ; if vb { let vc = va + vb ; vc = vb ; } say va ; }",
		"fn f(x){back x;}fn m(y){let x=f(y);say f(x)+x;}":                           "fn f ( va ) { back va ; } fn m ( va ) { let vb = f ( va ) ; say f ( vb ) + vb ; }",
		"fn va(vb){back vb;}fn vb(va){back va(va);}fn m(f){let va=vb(f);say va;}":   "fn va ( va ) { back va ; } fn vb ( va ) { back va ( va ) ; } fn m ( va ) { let vb = vb ( va ) ; say vb ; }",
		"fn m(a){put a,a;back a;let b=@a;do m2();}":                                 "",
		"fn f(a,b){}fn m(p){do f(p,p);put p,f(1,p);loop p{p=p-1;}back p;let q=@p;}": "fn f ( va , vb ) { } fn m ( va ) { do f ( va , va ) ; put va , f ( 1 , va ) ; loop va { va = va - 1 ; } back va ; let vb = @ va ; }",
	} {
		p, ok := impl.ReadProgram(s)
		r, fine := impl.RenameProgram(p)
		if text, _ := impl.ProgramText(r); fine != ok || text != want {
			t.Errorf("RenameProgram of %q = %q, %v; want %q", s, text, fine, want)
		}
		checkScopes(t, p)
		checkScopes(t, r)
	}
	for s, want := range map[string]bool{
		"fn m(){}": true, "fn m(va){}": true, "fn m(va,vb,vc){let vd=va;}": true, "fn va(va){}fn vb(va,vb){say va(vb);}": true, "fn f(){let va=1;}fn m(va){}": true, "fn m(){if 1{let va=1;}else{let vb=1;}let vc=1;}": true,
		"fn m(vb){}": false, "fn m(va,vc){}": false, "fn m(vb,va){}": false, "fn m(){let a=1;}": false, "fn f(va){}fn m(vb){}": false, "fn m(va){let vc=1;}": false, "fn m(){if 1{let va=1;}let va=1;}": false, "fn m(){if 1{let vb=1;}let va=1;}": false, "fn m(va,va){}": false, "fn m(){say va;}": false, "fn m(va){let va=1;}": false, "fn f(va){}fn f(va){}": false,
	} {
		p := read(t, s)
		if got := impl.IsRenamed(p); got != want {
			t.Errorf("IsRenamed of %q is %v", s, got)
		}
		checkScopes(t, p)
	}
}

// lets are so many variables with names that tell them apart.
func lets(n int) []impl.Stmt {
	var list []impl.Stmt
	for i := range n {
		s := "x" + string(rune('a'+i/26)) + string(rune('a'+i%26))
		list = append(list, let(s, num(i)))
		if i > 0 && i%10 == 0 {
			list[i].Args[0] = variable(list[i-1].Name)
		}
	}
	return list
}

// withVars are programs with a function, the one with the index, that has so many variables, at least 3.
func withVars(n int) (list []impl.Program, index []int) {
	three := params("a", "b", "c")
	add := func(k int, fns ...impl.Fn) { list, index = append(list, program(fns...)), append(index, k) }
	add(0, fn("m", nil, lets(n)...))
	add(0, fn("m", three, lets(n-3)...))
	add(0, fn("m", three, append(lets(n-3), set("a", variable("c")))...))
	add(0, fn("m", params("a"), loop(variable("a"), lets(n-1)...)))
	add(0, fn("m", nil, append(lets(n-2), when(num(1), block(let("a", num(1))), block(let("a", num(2)))))...))
	add(0, fn("m", params("a"), append(lets(n-3), when(num(1), nil, block(let("a", num(1)), loop(num(1), let("a", variable("a"))))))...))
	add(0, fn("f", three, lets(n-3)...), fn("m", nil))
	add(1, fn("f", three, lets(2)...), fn("g", nil, lets(n)...), fn("h", nil, lets(1)...), fn("m", three))
	add(1, fn("f", params("a")), fn("m", params("b"), append(lets(n-1), do(call("f", num(1))))...))
	return list, index
}

func TestVarsLimit(t *testing.T) {
	for _, n := range []int{3, 4, 25, 26, 27, 28, 30, 36} {
		list, index := withVars(n)
		for i, p := range list {
			if got := checkScopes(t, p); got != 0 {
				t.Fatalf("CheckProgram of %d variables is %d", n, got)
			}
			if got := impl.CountVars(p, index[i]); got != n {
				t.Errorf("CountVars of %d variables = %d", n, got)
			}
			r, ok := impl.RenameProgram(p)
			if ok != (n <= 26) || ok != (len(r.Fns) > 0) || ok != impl.IsRenamed(r) {
				t.Errorf("RenameProgram of %d variables = %v, %v", n, r, ok)
			}
			if _, ok := impl.DropUnneeded(p); !ok {
				t.Errorf("DropUnneeded of %d variables is false", n)
			}
		}
	}
	most := program(fn("m", params("a", "b", "c"), lets(40)...))
	if checkScopes(t, most) != 0 || impl.CountVars(most, 0) != 43 {
		t.Error("CountVars of as many variables as there can be is not 43")
	}
	// each function has its own ones, and those that are gone count
	apart := program(fn("f", params("a", "b", "c"), lets(10)...), fn("g", params("a", "b", "c"), lets(10)...), fn("h", params("a", "b", "c"), lets(10)...), fn("m", params("a", "b", "c"), lets(10)...))
	if _, ok := impl.RenameProgram(apart); !ok || checkScopes(t, apart) != 0 {
		t.Error("13 variables in each function are too many")
	}
	gone := mainOf()
	for range 9 {
		gone.Fns[0].Body = append(gone.Fns[0].Body, loop(num(1), lets(3)...))
	}
	if _, ok := impl.RenameProgram(gone); ok || checkScopes(t, gone) != 0 || impl.CountVars(gone, 0) != 27 {
		t.Error("27 variables, of which 3 can be used at once, are renamed")
	}
	// a program that is named as RenameProgram would go on has too many all the same
	named := mainOf(lets(27)...)
	for i := range 27 {
		named.Fns[0].Body[i] = let("v"+string(rune('a'+i%26)), num(1))
	}
	named.Fns[0].Body[26].Name = "wa"
	if checkScopes(t, named) != 0 || impl.IsRenamed(named) {
		t.Error("27 variables are renamed")
	}
}

func TestCalls(t *testing.T) {
	for s, want := range map[string]struct {
		calls  [][]int
		needed []int
		text   string
	}{
		"fn m(){}":                        {[][]int{{}}, []int{0}, "fn m ( ) { }"},
		"fn f(){}fn m(){}":                {[][]int{{}, {}}, []int{1}, "fn m ( ) { }"},
		"fn f(){}fn m(){do f();}":         {[][]int{{}, {0}}, []int{0, 1}, "fn f ( ) { } fn m ( ) { do f ( ) ; }"},
		"fn f(){}fn g(){}fn m(){do g();}": {[][]int{{}, {}, {1}}, []int{1, 2}, "fn g ( ) { } fn m ( ) { do g ( ) ; }"},
		"fn f(){}fn g(){do f();}fn m(){}": {[][]int{{}, {0}, {}}, []int{2}, "fn m ( ) { }"},
		"fn f(){}fn g(){}fn h(){}fn m(){say h()+f()+h()*(f()-g());}":                    {[][]int{{}, {}, {}, {0, 1, 2}}, []int{0, 1, 2, 3}, "fn f ( ) { } fn g ( ) { } fn h ( ) { } fn m ( ) { say h ( ) + f ( ) + h ( ) * ( f ( ) - g ( ) ) ; }"},
		"fn f(){}fn g(){do f();}fn h(){do g();}fn m(){do h();}":                         {[][]int{{}, {0}, {1}, {2}}, []int{0, 1, 2, 3}, "fn f ( ) { } fn g ( ) { do f ( ) ; } fn h ( ) { do g ( ) ; } fn m ( ) { do h ( ) ; }"},
		"fn f(){}fn g(){do f();}fn h(){do g();do f();}fn m(){do g();}":                  {[][]int{{}, {0}, {0, 1}, {1}}, []int{0, 1, 3}, "fn f ( ) { } fn g ( ) { do f ( ) ; } fn m ( ) { do g ( ) ; }"},
		"fn f(){}fn g(){}fn h(){do f();}fn m(){do h();}":                                {[][]int{{}, {}, {0}, {2}}, []int{0, 2, 3}, "fn f ( ) { } fn h ( ) { do f ( ) ; } fn m ( ) { do h ( ) ; }"},
		"fn f(a){}fn g(a){}fn m(){say f(g(f(1)));}":                                     {[][]int{{}, {}, {0, 1}}, []int{0, 1, 2}, "fn f ( a ) { } fn g ( a ) { } fn m ( ) { say f ( g ( f ( 1 ) ) ) ; }"},
		"fn f(){}fn g(){}fn h(){}fn m(f){back 1;if f{loop f{do h();}}else{put 1,g();}}": {[][]int{{}, {}, {}, {1, 2}}, []int{1, 2, 3}, "fn g ( ) { } fn h ( ) { } fn m ( f ) { back 1 ; if f { loop f { do h ( ) ; } } else { put 1 , g ( ) ; } }"},
		"fn f(){}fn g(){}fn m(){if f(){}loop 0{let a=g();}}":                            {[][]int{{}, {}, {0, 1}}, []int{0, 1, 2}, "fn f ( ) { } fn g ( ) { } fn m ( ) { if f ( ) { } loop 0 { let a = g ( ) ; } }"},
		"fn f(){}fn g(){}fn m(a){a=f();back g();}":                                      {[][]int{{}, {}, {0, 1}}, []int{0, 1, 2}, "fn f ( ) { } fn g ( ) { } fn m ( a ) { a = f ( ) ; back g ( ) ; }"},
		"fn f(f){say f;}fn g(f){say f;}fn m(g){say g;}":                                 {[][]int{{}, {}, {}}, []int{2}, "fn m ( g ) { say g ; }"},
	} {
		p := read(t, s)
		for k, calls := range want.calls {
			if got := impl.CalledBy(p, k); !slices.Equal(got, calls) {
				t.Errorf("CalledBy(%q, %d) = %v; want %v", s, k, got, calls)
			}
		}
		d, ok := impl.DropUnneeded(p)
		text, _ := impl.ProgramText(d)
		if got := impl.NeededIn(p); !slices.Equal(got, want.needed) || !ok || text != want.text {
			t.Errorf("NeededIn(%q) = %v, DropUnneeded = %q, %v", s, got, text, ok)
		}
		if checkScopes(t, p) != 0 || checkScopes(t, d) != 0 || len(impl.NeededIn(d)) != len(d.Fns) {
			t.Errorf("of %q all functions are needed, but those of %q are not", s, text)
		}
	}
}

// smallStmts are statements of the names a and b that have others in them, as few as may be.
func smallStmts() []impl.Stmt {
	a, b := variable("a"), variable("b")
	simple := []impl.Stmt{let("a", num(1)), let("a", a), let("b", a), set("a", b), set("b", num(2)), say(a), say(b)}
	var blocks [][]impl.Stmt
	for i, s := range simple {
		blocks = append(blocks, block(s))
		for _, r := range simple[i%2:] {
			blocks = append(blocks, block(s, r))
		}
	}
	list := slices.Clone(simple)
	for i, body := range blocks {
		list = append(list, []impl.Stmt{loop(a, body...), when(b, body, nil), when(num(0), nil, body), when(num(1), blocks[(i*5)%len(blocks)], body)}[i%4])
	}
	return list
}

func TestScopesOfSmallPrograms(t *testing.T) {
	codes := map[int]int{}
	list := smallStmts()
	for i, s := range list {
		codes[checkScopes(t, mainOf(s))]++
		for k, r := range list {
			codes[checkScopes(t, program(fn("m", params("a", "b")[:(i+k)%3], s, r)))]++
			if (i+k)%4 == 0 {
				codes[checkScopes(t, program(fn("m", params("a"), s, r, list[(i*k)%len(list)])))]++
			}
		}
	}
	for _, code := range []int{0, 2, 3} {
		if codes[code] < 200 {
			t.Errorf("%d small programs have the code %d", codes[code], code)
		}
	}
}

// TestScopesOfSmallCalls has all ways in which three functions with few Params call each other.
func TestScopesOfSmallCalls(t *testing.T) {
	codes := map[int]int{}
	one := num(1)
	bodies := [][]impl.Stmt{nil, {say(variable("a"))}, {do(call("f"))}, {say(call("f", one))}, {back(call("g", variable("a")))}, {do(call("g", call("f"), one))}, {set("a", call("m"))}, {let("f", plus(call("f", one), call("g", one)))}, {say(call("f", call("g", call("f"))))}}
	lists := [][]string{nil, {"a"}, {"a", "f"}}
	for _, names := range [][]string{{"f", "g", "m"}, {"g", "f", "m"}, {"f", "g", "f"}, {"m", "g", "g"}} {
		for i := range len(lists) * len(lists) * len(bodies) * len(bodies) * len(bodies) {
			n := i
			take := func(of int) int { k := n % of; n /= of; return k }
			f, g := fn(names[0], lists[take(len(lists))], bodies[take(len(bodies))]...), fn(names[1], lists[take(len(lists))], bodies[take(len(bodies))]...)
			codes[checkScopes(t, program(f, g, fn(names[2], params("a"), bodies[take(len(bodies))]...)))]++
		}
	}
	for _, code := range []int{0, 2, 3, 4, 5} {
		if codes[code] < 50 {
			t.Errorf("%d programs of small calls have the code %d", codes[code], code)
		}
	}
}

func TestScopesOfRandomPrograms(t *testing.T) {
	codes := map[int]int{}
	fine := maker{rnd: rand.New(rand.NewSource(41))}
	for range 1500 {
		p := fine.program()
		if got := checkScopes(t, p); got > 1 { // an expression may have too many parts
			t.Fatalf("CheckProgram(%v) is %d", p, got)
		}
		codes[impl.CheckProgram(p)]++
	}
	if codes[0] < 1200 {
		t.Errorf("%d of the programs with which nothing is wrong are not valid", codes[1])
	}
	for _, wrong := range []int{2, 10, 50, 200} {
		m := maker{rnd: rand.New(rand.NewSource(42 + int64(wrong))), wrong: wrong}
		for range 1000 {
			codes[checkScopes(t, m.program())]++
		}
	}
	rnd := rand.New(rand.NewSource(43))
	for range 1000 {
		codes[checkScopes(t, someProgram(rnd))]++
	}
	for code := range 6 {
		if codes[code] < 90 {
			t.Errorf("%d random programs have the code %d", codes[code], code)
		}
	}
}

// wrongPrograms are programs that are not valid.
func wrongPrograms() []impl.Program {
	f := fn("f", nil)
	great := says(1)
	for range 100000 {
		great = block(loop(num(1), great...))
	}
	return []impl.Program{
		{}, {Fns: []impl.Fn{}}, {Fns: []impl.Fn{{}}}, program(f, fn("", nil)), program(f, fn("g", nil), fn("h", nil), fn("i", nil), fn("m", nil)), program(fn("let", nil)), program(fn("m", params("a", "b", "c", "d"))), program(fn("m", params("abcde"))), program(fn("m", params(""))),
		mainOf(says(41)...), mainOf(within(4, say(num(1)))), mainOf(impl.Stmt{}), mainOf(say(num(256))), mainOf(say(variable(""))), mainOf(say(variable("A"))), mainOf(let("do", num(1))), mainOf(set("", num(1))), mainOf(let("a", nots(11, 6))), mainOf(let("a", num(1)), impl.Stmt{Op: 3, Args: []impl.Expr{num(1)}, Name: "a"}),
		program(f, fn("m", nil, do(call("f")), do(num(1)))), program(f, fn("m", nil, do(call("f", num(1), num(1), num(1), num(1))))), program(f, fn("m", nil, do(call("F")))), program(fn("m", nil, say(withParts(31)))), program(fn("f", nil, impl.Stmt{Op: 9}), fn("m", nil)),
		ring(1, 5, false), ring(3, 6, false), ring(2, 5, true), mainOf(say(endless(3, 11))), mainOf(great...), {Fns: make([]impl.Fn, 100000)},
	}
}

func TestScopesOfProgramsThatAreWrong(t *testing.T) {
	for _, s := range []string{"fn f(a){back a+1;}fn m(b){let a=f(b);if a{let b=a;say b;}else{put 1,a;}loop b{b=b-1;do f(b);}}"} {
		codes := map[int]int{}
		for _, p := range otherPrograms(read(t, s)) {
			codes[checkScopes(t, p)]++
		}
		if codes[0] < 20 || codes[1] < 1000 || codes[3] < 10 || codes[4] < 10 || codes[5] < 10 {
			t.Errorf("the changed programs have the codes %v", codes)
		}
	}
	for i, p := range wrongPrograms() {
		if got := impl.CheckProgram(p); got != 1 {
			t.Errorf("CheckProgram of the program %d, which is not valid, is %d", i, got)
		}
		checkNoScopes(t, impl.Program{Fns: p.Fns})
	}
	if codes := [6]int{impl.CheckFine, impl.CheckForm, impl.CheckTwice, impl.CheckName, impl.CheckCall, impl.CheckArgs}; codes != [6]int{0, 1, 2, 3, 4, 5} || impl.MaxVars != 26 {
		t.Errorf("the codes are %v, MaxVars is %d", codes, impl.MaxVars)
	}
}

func TestScopeResultsAreTheirOwn(t *testing.T) {
	m := maker{rnd: rand.New(rand.NewSource(44))}
	list := []impl.Program{read(t, "fn m(va){}"), read(t, "fn f(va,vb){say va;}fn m(va){let vb=f(va,1);if vb{say va;}else{put va,vb;}}"), read(t, "fn f(a){}fn g(b){back f(f(b));}fn m(c){loop c{let d=g(c);do g(d);}}")}
	for range 300 {
		list = append(list, m.program())
	}
	for _, p := range list {
		r, _ := impl.RenameProgram(p)
		d, _ := impl.DropUnneeded(p)
		if again, _ := impl.RenameProgram(p); shareMemory(p, r, d, again) {
			t.Fatalf("the results of RenameProgram and DropUnneeded of %v share memory: %v, %v", p, r, d)
		}
		for k := range p.Fns {
			if shareMemory(impl.NeededIn(p), impl.NeededIn(p), impl.CalledBy(p, k), impl.CalledBy(p, k)) {
				t.Fatalf("results of NeededIn and CalledBy of %v share memory", p)
			}
		}
		want := plainProgram(p)
		for _, x := range []impl.Program{r, d} {
			for i := range x.Fns {
				x.Fns[i] = impl.Fn{Name: "spoilt"}
			}
		}
		checkScopes(t, want)
	}
}

// TestScopesOfSharedMemory has programs of which lists are the same memory, and have more memory behind them, which is
// not to be read or written.
func TestScopesOfSharedMemory(t *testing.T) {
	names := []string{"a", "b", "a"}
	exprs := []impl.Expr{variable("a"), plus(variable("b"), variable("a")), variable("zz"), {Op: 79}}
	exprs[1].Kids = []impl.Expr{variable("b"), variable("a"), variable("zz")}[:2]
	inner := []impl.Stmt{{Op: 1, Name: "a", Args: exprs[:1]}, {Op: 3, Args: exprs[1:2]}, {Op: 3, Args: exprs[2:3]}, {Op: 78}}
	outer := []impl.Stmt{{Op: 5, Args: exprs[:1], Body: inner[:2], Else: inner[:2]}, {Op: 6, Args: exprs[1:2], Body: inner[:2]}, {Op: 4, Args: exprs[:2]}, {Op: 77}}
	fns := []impl.Fn{{Name: "f", Params: names[:2], Body: outer[:3]}, {Name: "g", Params: names[:2], Body: outer[:2]}, {Name: "m", Params: names[1:3], Body: outer[:3]}, {Name: "m"}}
	before := []any{slices.Clone(names), plainArgs(exprs), plainBlock(inner), plainBlock(outer), plainProgram(program(fns...))}
	for n := 1; n <= 3; n++ {
		p := impl.Program{Fns: fns[:n]}
		if got := checkScopes(t, p); got != 0 {
			t.Fatalf("CheckProgram(%v) = %d", p, got)
		}
		r, _ := impl.RenameProgram(p)
		d, _ := impl.DropUnneeded(p)
		if shareMemory(r) || shareMemory(d) || len(memoryIn(r)) < 10 {
			t.Errorf("lists of %v or %v share memory", r, d)
		}
	}
	if after := []any{names, plainArgs(exprs), plainBlock(inner), plainBlock(outer), plainProgram(program(fns...))}; !reflect.DeepEqual(before, after) {
		t.Errorf("what was given became %v", after)
	}
}
