package tests

import (
	"math/rand"
	"reflect"
	"regexp"
	"slices"
	"strings"
	"testing"

	"loop.example/wholeway/impl"
)

// The programs of the document's chapter 3, told a second time and in another way than the program tells them:
// a text with one space behind each word is cut by these forms, from its beginning on.
var (
	fnForm    = regexp.MustCompile(`^fn ([a-z]+) \( ((?:[a-z]+ (?:, [a-z]+ )*)?)\) { `)
	elseForm  = regexp.MustCompile(`^else { `)
	stmtForms = []*regexp.Regexp{
		1: regexp.MustCompile(`^let ([a-z]+) = ([^;{}]*); `),
		2: regexp.MustCompile(`^([a-z]+) = ([^;{}]*); `),
		3: regexp.MustCompile(`^say ()([^;{}]*); `),
		4: regexp.MustCompile(`^put ()([^;{}]*); `),
		5: regexp.MustCompile(`^if ()([^;{}]*){ `),
		6: regexp.MustCompile(`^loop ()([^;{}]*){ `),
		7: regexp.MustCompile(`^back ()([^;{}]*); `),
		8: regexp.MustCompile(`^do ()([^;{}]*); `),
	}
)

func let(s string, e impl.Expr) impl.Stmt { return impl.Stmt{Op: 1, Name: s, Args: []impl.Expr{e}} }
func set(s string, e impl.Expr) impl.Stmt { return impl.Stmt{Op: 2, Name: s, Args: []impl.Expr{e}} }
func say(e impl.Expr) impl.Stmt           { return impl.Stmt{Op: 3, Args: []impl.Expr{e}} }
func put(a, b impl.Expr) impl.Stmt        { return impl.Stmt{Op: 4, Args: []impl.Expr{a, b}} }
func back(e impl.Expr) impl.Stmt          { return impl.Stmt{Op: 7, Args: []impl.Expr{e}} }
func do(e impl.Expr) impl.Stmt            { return impl.Stmt{Op: 8, Args: []impl.Expr{e}} }
func block(list ...impl.Stmt) []impl.Stmt { return list }
func params(list ...string) []string      { return list }

func when(e impl.Expr, then []impl.Stmt, other []impl.Stmt) impl.Stmt {
	return impl.Stmt{Op: 5, Args: []impl.Expr{e}, Body: then, Else: other}
}

func loop(e impl.Expr, body ...impl.Stmt) impl.Stmt {
	return impl.Stmt{Op: 6, Args: []impl.Expr{e}, Body: body}
}

func fn(s string, params []string, body ...impl.Stmt) impl.Fn {
	return impl.Fn{Name: s, Params: params, Body: body}
}

func program(fns ...impl.Fn) impl.Program { return impl.Program{Fns: fns} }

// mainOf is a program of one function.
func mainOf(body ...impl.Stmt) impl.Program { return program(fn("m", nil, body...)) }

// placed is a statement with how deep it is nested.
type placed struct {
	impl.Stmt
	nest int
}

// placedIn are all statements of a block, and of all in them.
func placedIn(block []impl.Stmt, nest int) []placed {
	var list []placed
	for _, s := range block {
		list = append(list, placed{s, nest})
		list = append(list, placedIn(s.Body, nest+1)...)
		list = append(list, placedIn(s.Else, nest+1)...)
	}
	return list
}

// wantAlone tells whether a statement is valid, whatever is in its Body and Else.
func wantAlone(s impl.Stmt) bool {
	for _, arg := range s.Args {
		if !wantExprValid(arg) {
			return false
		}
	}
	args, named, simple := len(s.Args), s.Name != "", len(s.Body)+len(s.Else) == 0
	switch s.Op {
	case 1, 2:
		return wantValid(name(s.Name)) && args == 1 && simple
	case 3, 7:
		return !named && args == 1 && simple
	case 4:
		return !named && args == 2 && simple
	case 5:
		return !named && args == 1
	case 6:
		return !named && args == 1 && len(s.Else) == 0
	case 8:
		return !named && args == 1 && simple && s.Args[0].Op == 13
	}
	return false
}

func wantStmtValid(s impl.Stmt) bool {
	for _, p := range placedIn(block(s), 1) {
		if p.nest > 4 || !wantAlone(p.Stmt) {
			return false
		}
	}
	return true
}

// wantSizes is how many statements a program has and how deep they are nested; -1 and -1 if it is not valid.
func wantSizes(p impl.Program) (count int, deepest int) {
	ok := len(p.Fns) >= 1 && len(p.Fns) <= 4
	for _, f := range p.Fns {
		ok = ok && wantValid(name(f.Name)) && len(f.Params) <= 3
		for _, param := range f.Params {
			ok = ok && wantValid(name(param))
		}
		for _, s := range f.Body {
			ok = ok && wantStmtValid(s)
		}
		for _, s := range placedIn(f.Body, 1) {
			count, deepest = count+1, max(deepest, s.nest)
		}
	}
	if !ok || count > 40 {
		return -1, -1
	}
	return count, deepest
}

func wantProgramValid(p impl.Program) bool {
	count, _ := wantSizes(p)
	return count >= 0
}

// spaced is a text with one space between any two of its words.
func spaced(parts ...string) string {
	return strings.Join(strings.Fields(strings.Join(parts, " ")), " ")
}

func wantStmtText(s impl.Stmt) string {
	var args []string
	for _, arg := range s.Args {
		args = append(args, wantExprText(arg))
	}
	switch s.Op {
	case 1:
		return spaced("let", s.Name, "=", args[0], ";")
	case 2:
		return spaced(s.Name, "=", args[0], ";")
	case 4:
		return spaced("put", args[0], ",", args[1], ";")
	case 6:
		return spaced("loop", args[0], wantBlockText(s.Body))
	case 5:
		if len(s.Else) == 0 {
			return spaced("if", args[0], wantBlockText(s.Body))
		}
		return spaced("if", args[0], wantBlockText(s.Body), "else", wantBlockText(s.Else))
	}
	return spaced(map[int]string{3: "say", 7: "back", 8: "do"}[s.Op], args[0], ";")
}

func wantBlockText(list []impl.Stmt) string {
	text := "{"
	for _, s := range list {
		text += " " + wantStmtText(s)
	}
	return text + " }"
}

// wantWords is the text of a valid program, however long it is.
func wantWords(p impl.Program) string {
	var fns []string
	for _, f := range p.Fns {
		fns = append(fns, "fn", f.Name, "(", strings.Join(f.Params, " , "), ")", wantBlockText(f.Body))
	}
	return spaced(fns...)
}

// wantProgramText is what ProgramText should return.
func wantProgramText(p impl.Program) (string, bool) {
	if !wantProgramValid(p) {
		return "", false
	}
	text := wantWords(p)
	if len(strings.Fields(text)) > 600 || len(text) > 3000 {
		return "", false
	}
	return text, true
}

// wantBlock is the block that stands ahead of a closing bracket, and what is behind this.
func wantBlock(text string) (list []impl.Stmt, rest string, ok bool) {
	for !strings.HasPrefix(text, "} ") {
		var s impl.Stmt
		if s, text, ok = wantStmt(text); !ok {
			return nil, "", false
		}
		list = append(list, s)
	}
	return list, strings.TrimPrefix(text, "} "), true
}

// wantStmt is the statement with which a text begins, and what is behind it.
func wantStmt(text string) (s impl.Stmt, rest string, ok bool) {
	for o, form := range stmtForms {
		if form == nil || !form.MatchString(text) {
			continue
		}
		found := form.FindStringSubmatch(text)
		s, rest = impl.Stmt{Op: o, Name: found[1]}, text[len(found[0]):]
		args, _, ok := cutOutside(strings.Fields(found[2]), ",")
		for _, arg := range args {
			e, fine := wantTree(arg)
			s.Args, ok = append(s.Args, e), ok && fine
		}
		if ok && o >= 5 && o <= 6 {
			s.Body, rest, ok = wantBlock(rest)
		}
		if ok && o == 5 && elseForm.MatchString(rest) {
			s.Else, rest, ok = wantBlock(elseForm.ReplaceAllString(rest, ""))
		}
		return s, rest, ok
	}
	return impl.Stmt{}, "", false
}

// wantReadProgram is what ReadProgram should return.
func wantReadProgram(s string) (impl.Program, bool) {
	words, ok := wantCut(s)
	text := ""
	for _, w := range words {
		text += w.Text + " "
	}
	var p impl.Program
	for text != "" && ok {
		found := fnForm.FindStringSubmatch(text)
		if found == nil {
			return impl.Program{}, false
		}
		f := impl.Fn{Name: found[1], Params: strings.Fields(strings.ReplaceAll(found[2], ",", " "))}
		f.Body, text, ok = wantBlock(text[len(found[0]):])
		p.Fns = append(p.Fns, f)
	}
	if !ok || !wantProgramValid(p) {
		return impl.Program{}, false
	}
	return p, true
}

// plainBlock is a block of memory of its own, with nil for all lists that are empty.
func plainBlock(list []impl.Stmt) []impl.Stmt {
	var plain []impl.Stmt
	for _, s := range list {
		s.Args, s.Body, s.Else = plainArgs(s.Args), plainBlock(s.Body), plainBlock(s.Else)
		plain = append(plain, s)
	}
	return plain
}

func plainArgs(list []impl.Expr) []impl.Expr { return plainExpr(impl.Expr{Kids: list}).Kids }

func plainProgram(p impl.Program) impl.Program {
	var plain impl.Program
	for _, f := range p.Fns {
		f.Params, f.Body = append([]string(nil), f.Params...), plainBlock(f.Body)
		plain.Fns = append(plain.Fns, f)
	}
	return plain
}

func equalPrograms(a impl.Program, b impl.Program) bool {
	return reflect.DeepEqual(plainProgram(a), plainProgram(b))
}

// checkReadProgram compares ReadProgram of a text with what it should return, and reports whether there is a program.
func checkReadProgram(t *testing.T, s string) bool {
	t.Helper()
	want, wantOk := wantReadProgram(s)
	got, ok := impl.ReadProgram(s)
	if ok != wantOk || !equalPrograms(got, want) {
		t.Fatalf("ReadProgram(%q) = %v, %v; want %v, %v", s, got, ok, want, wantOk)
	}
	return ok
}

// checkProgram compares all that the program tells of one program, valid or not, with what it should tell,
// and checks promise 3 on it, if it has a text. It reports whether it is valid.
func checkProgram(t *testing.T, p impl.Program) bool {
	t.Helper()
	before := plainProgram(p)
	count, deepest := wantSizes(p)
	if got := impl.ProgramValid(p); got != (count >= 0) {
		t.Fatalf("ProgramValid(%v) is %v", p, got)
	}
	if got := impl.StmtCount(p); got != count {
		t.Fatalf("StmtCount(%v) = %d; want %d", p, got, count)
	}
	if got := impl.NestOf(p); got != deepest {
		t.Fatalf("NestOf(%v) = %d; want %d", p, got, deepest)
	}
	text, wantOk := wantProgramText(p)
	if got, ok := impl.ProgramText(p); ok != wantOk || got != text {
		t.Fatalf("ProgramText(%v) = %q, %v; want %q, %v", p, got, ok, text, wantOk)
	}
	if again, ok := impl.ReadProgram(text); wantOk && (!ok || !equalPrograms(again, p)) {
		t.Fatalf("%v has the text %q, which is read as %v, %v", p, text, again, ok)
	}
	if !impl.SamePrograms(p, before) || !impl.SamePrograms(before, p) {
		t.Fatalf("%v differs from itself", p)
	}
	if !equalPrograms(p, before) {
		t.Fatalf("%v became %v", before, p)
	}
	return count >= 0
}

// checkStmt compares StmtValid of a statement with what it should report, and all of programs that have it in blocks of
// each depth.
func checkStmt(t *testing.T, s impl.Stmt) {
	t.Helper()
	if got := impl.StmtValid(s); got != wantStmtValid(s) {
		t.Fatalf("StmtValid(%v) is %v", s, got)
	}
	for range 4 {
		checkProgram(t, mainOf(s))
		checkProgram(t, program(fn("f", params("a"), say(num(1)), s, back(num(2))), fn("m", nil)))
		s = when(num(1), block(say(num(2))), block(s))
	}
}

// within is a statement in so many others, one in the other, by turns in their Bodies and an Else.
func within(n int, s impl.Stmt) impl.Stmt {
	for i := range n {
		switch i % 3 {
		case 0:
			s = when(variable("a"), block(s), nil)
		case 1:
			s = loop(variable("a"), s)
		case 2:
			s = when(variable("a"), nil, block(s))
		}
	}
	return s
}

// says are so many statements.
func says(n int) []impl.Stmt {
	var list []impl.Stmt
	for i := range n {
		list = append(list, say(num(i%256)))
	}
	return list
}

// kinds are statements of all kinds, all of them valid.
func kinds() []impl.Stmt {
	a, f := variable("a"), call("f", num(1), variable("b"))
	one := say(num(1))
	return []impl.Stmt{
		let("b", a), let("abcd", f), set("a", num(255)), set("z", plus(a, f)), say(a), say(f), put(a, num(0)), put(f, f), back(num(0)), back(not(a)), do(call("f")), do(f),
		when(a, nil, nil), when(a, block(one), nil), when(a, nil, block(one)), when(f, block(one, put(a, a)), block(let("c", a), loop(a))),
		loop(a), loop(num(0), one), loop(f, when(a, block(back(a)), nil), do(f)),
	}
}

// someBlock is a random block, of statements that are nested so deep; left counts how many there may be.
func someBlock(rnd *rand.Rand, nest int, left *int) []impl.Stmt {
	var list []impl.Stmt
	names := []string{"a", "b", "xyz", "abcd", "lets", "e"}
	for *left > 0 && rnd.Intn(4) > 0 {
		*left--
		e, s := someExpr(rnd, 1+rnd.Intn(4)), names[rnd.Intn(len(names))]
		switch o := 1 + rnd.Intn(8); {
		case nest < 5 && (o == 5 || rnd.Intn(4) == 0):
			list = append(list, when(e, someBlock(rnd, nest+1, left), someBlock(rnd, nest+1, left)))
		case nest < 5 && o == 6:
			list = append(list, loop(e, someBlock(rnd, nest+1, left)...))
		case o <= 2:
			list = append(list, impl.Stmt{Op: o, Name: s, Args: []impl.Expr{e}})
		case o == 4:
			list = append(list, put(e, someExpr(rnd, 2)))
		case o == 8:
			list = append(list, do(call(s, num(3), variable("q"))))
		default:
			list = append(list, impl.Stmt{Op: 3 + 4*rnd.Intn(2), Args: []impl.Expr{e}})
		}
	}
	return list
}

// someProgram is a random program, which may have too many functions, Params and statements, nested too deep.
func someProgram(rnd *rand.Rand) impl.Program {
	var p impl.Program
	left := 1 + rnd.Intn(45)
	for range 1 + rnd.Intn(9)*rnd.Intn(9)/16 {
		f := impl.Fn{Name: []string{"f", "g", "m", "abcd"}[rnd.Intn(4)]}
		for range rnd.Intn(9) * rnd.Intn(9) / 16 {
			f.Params = append(f.Params, []string{"a", "b", "xyz", "fnx"}[rnd.Intn(4)])
		}
		f.Body = someBlock(rnd, 1+rnd.Intn(2), &left)
		p.Fns = append(p.Fns, f)
	}
	return p
}

// someTexts are texts of programs in which all kinds of statements stand.
func someTexts() []string {
	return []string{
		"fn m ( ) { }",
		"fn f ( a ) { back a + 1 ; } fn m ( ) { say f ( 2 ) ; }",
		"fn m ( a , b , c ) { let d = a ; d = b & c ; say d ; put d , @ 3 ; do g ( ) ; back f ( a , b , c ) ; }",
		"fn m ( ) { if a { } loop b { } if a { say 1 ; } loop 0 { a = 1 ; } if a { } else { back 0 ; } if ( f ( ) ) { let a = 1 ; } else { put 1 , 2 ; do f ( a ) ; } }",
		"fn a ( b ) { loop a { if b { loop c { if d { } else { } } } else { if e { } } } } fn a ( a ) { } fn b ( c , c ) { } fn c ( ) { back ( a + b ) * c ; }",
	}
}

func TestProgramsAreReadBack(t *testing.T) {
	for _, s := range kinds() {
		if !wantStmtValid(s) || !impl.StmtValid(s) {
			t.Errorf("%v is not valid", s)
		}
		checkStmt(t, s)
		for _, r := range kinds() {
			checkProgram(t, mainOf(s, r))
			checkProgram(t, program(fn("f", params("a", "b"), s), fn("g", nil), fn("abcd", params("f"), r, s)))
		}
	}
	for _, e := range shapes() {
		for _, s := range []impl.Stmt{let("x", e), set("x", e), say(e), put(e, not(e)), back(e), do(call("f", e)), do(e), when(e, block(say(e)), block(say(e))), loop(e, say(e))} {
			checkStmt(t, s)
		}
	}
}

func TestRandomPrograms(t *testing.T) {
	rnd := rand.New(rand.NewSource(11))
	valid, refused := 0, 0
	for range 10000 {
		if checkProgram(t, someProgram(rnd)) {
			valid++
		} else {
			refused++
		}
	}
	if valid < 2500 || refused < 2500 {
		t.Errorf("%d programs are valid, %d are not", valid, refused)
	}
}

func TestProgramTextExamples(t *testing.T) {
	for s, want := range map[string]string{
		"fn m(){}":                                         "fn m ( ) { }",
		"fn m(a){}":                                        "fn m ( a ) { }",
		"fn abcd(a,b,wxyz){back(a);}":                      "fn abcd ( a , b , wxyz ) { back a ; }",
		"fn f(a){back a+1;}fn m(){say f(2);}":              "fn f ( a ) { back a + 1 ; } fn m ( ) { say f ( 2 ) ; }",
		"fn f(){}fn f(){}":                                 "fn f ( ) { } fn f ( ) { }",
		"fn m(a,a){}":                                      "fn m ( a , a ) { }",
		"fn m(){let x=1;x=x=x;say(x);}":                    "fn m ( ) { let x = 1 ; x = x = x ; say x ; }",
		"fn m(){put 1,(2);put f(1,2),(f(3,4));}":           "fn m ( ) { put 1 , 2 ; put f ( 1 , 2 ) , f ( 3 , 4 ) ; }",
		"fn m(){do f();do((f(1)));}":                       "fn m ( ) { do f ( ) ; do f ( 1 ) ; }",
		"fn m(){if 1{}}":                                   "fn m ( ) { if 1 { } }",
		"fn m(){if(1){}else{}}":                            "fn m ( ) { if 1 { } }",
		"fn m(){if 1{say 2;}else{}loop 0{put 1,2;}}":       "fn m ( ) { if 1 { say 2 ; } loop 0 { put 1 , 2 ; } }",
		"fn m(){if 1{}else{say 2;}}":                       "fn m ( ) { if 1 { } else { say 2 ; } }",
		"fn m(){if 1{if 2{}else{}}else{if 3{}else{}}}":     "fn m ( ) { if 1 { if 2 { } } else { if 3 { } } }",
		"fn m(){if 1{if 2{}}else{say 3;}}":                 "fn m ( ) { if 1 { if 2 { } } else { say 3 ; } }",
		"fn m(){if 1{if 2{}else{say 3;}}}":                 "fn m ( ) { if 1 { if 2 { } else { say 3 ; } } }",
		"fn m(a){loop a<3&!(a){a=(a+1)*2;}back 7;back 8;}": "fn m ( a ) { loop a < 3 & ! a { a = ( a + 1 ) * 2 ; } back 7 ; back 8 ; }",
		"\n fn\nm ( ) {\n\n} ":                             "fn m ( ) { }",
	} {
		p, ok := impl.ReadProgram(s)
		if got, fine := impl.ProgramText(p); !ok || !fine || got != want {
			t.Errorf("ProgramText of %q = %q, %v, %v; want %q", s, got, ok, fine, want)
		}
		checkReadProgram(t, s)
	}
}

func TestReadProgramTrees(t *testing.T) {
	a, b := variable("a"), variable("b")
	for s, want := range map[string]impl.Program{
		"":                               {},
		"fn m(){}":                       mainOf(),
		"fn f(a,b){}fn m(){}":            program(fn("f", params("a", "b")), fn("m", nil)),
		"fn m(){let a=b;}":               mainOf(let("a", b)),
		"fn m(){a=b;}":                   mainOf(set("a", b)),
		"fn m(){a=b=a;}":                 mainOf(set("a", op(9, b, a))),
		"fn m(){say a-b-1;}":             mainOf(say(minus(minus(a, b), num(1)))),
		"fn m(){put a,b;}":               mainOf(put(a, b)),
		"fn m(){put f(a,b),1;}":          mainOf(put(call("f", a, b), num(1))),
		"fn m(){back 255;}":              mainOf(back(num(255))),
		"fn m(){do f(a);}":               mainOf(do(call("f", a))),
		"fn m(){if a{}}":                 mainOf(when(a, nil, nil)),
		"fn m(){if a{}else{}}":           mainOf(when(a, nil, nil)),
		"fn m(){if a{say 1;}else{}}":     mainOf(when(a, block(say(num(1))), nil)),
		"fn m(){if a{}else{say 1;}}":     mainOf(when(a, nil, block(say(num(1))))),
		"fn m(){if a{}say 1;}":           mainOf(when(a, nil, nil), say(num(1))),
		"fn m(){loop a{say 1;}say b;}":   mainOf(loop(a, say(num(1))), say(b)),
		"fn m(){loop a{}if b{}}":         mainOf(loop(a), when(b, nil, nil)),
		"fn m(){back 1;}fn m(){back 2;}": program(fn("m", nil, back(num(1))), fn("m", nil, back(num(2)))),
	} {
		got, ok := impl.ReadProgram(s)
		if ok != (s != "") || !equalPrograms(got, want) {
			t.Errorf("ReadProgram(%q) = %v, %v; want %v", s, got, ok, want)
		}
		checkReadProgram(t, s)
	}
}

// TestReadProgramExprs has expressions of all sorts as Args, which are to be read as by ReadExpr.
func TestReadProgramExprs(t *testing.T) {
	rnd := rand.New(rand.NewSource(12))
	list := []string{"", "(a)", "((a))", "a+b*c", "(a+b)*c", "a-b-c", "!!!!!a", "!!!!!!a", "f(a,(b),c)", "f(a,b,c,d)", "f(", "a)", "(a", "a,b", "a b", "let", "256", "1 2", "f()()", "((f()))", "a=b", "=a"}
	for n := 28; n <= 32; n++ {
		list = append(list, wantExprText(withParts(n)))
	}
	for range 2000 {
		list = append(list, wantExprText(someExpr(rnd, 1+rnd.Intn(6))))
	}
	for _, s := range list {
		e, ok := impl.ReadExpr(s)
		a := variable("a")
		for text, want := range map[string]impl.Stmt{
			"let a = ? ;": let("a", e), "a = ? ;": set("a", e), "say ? ;": say(e), "back ? ;": back(e), "put ? , a ;": put(e, a), "put a , ? ;": put(a, e),
			"if ? { }": when(e, nil, nil), "loop ? { }": loop(e), "do ? ;": do(e), "if a { say ? ; }": when(a, block(say(e)), nil),
		} {
			text = "fn m ( ) { " + strings.ReplaceAll(text, "?", s) + " }"
			got, read := impl.ReadProgram(text)
			fine := ok && (want.Op != 8 || e.Op == 13)
			if read != fine || read && !equalPrograms(got, mainOf(want)) {
				t.Fatalf("ReadProgram(%q) = %v, %v", text, got, read)
			}
		}
	}
}

func TestReadProgramRefuses(t *testing.T) {
	for _, s := range []string{
		"", " ", "\n", "fn", "m", "{", "}", "{ }", "( ) { }", "say 1 ;", "let a = 1 ;", "fn m", "fn m (", "fn m ( )", "fn m ( ) {", "m ( ) { }", "fn ( ) { }", "fn m { }", "fn m ( { }", "fn m ) { }",
		"fn fn ( ) { }", "fn do ( ) { }", "fn 1 ( ) { }", "fn abcde ( ) { }", "fn m ( fn ) { }", "fn m ( 1 ) { }", "fn m ( a b ) { }", "fn m ( a , ) { }", "fn m ( , a ) { }", "fn m ( , ) { }", "fn m ( a , , b ) { }", "fn m ( a ; b ) { }", "fn m ( ( a ) ) { }", "fn m ( a , b , c , d ) { }", "fn m ( a", "fn m ( a ,",
		"fn m ( ) { } }", "fn m ( ) { } ;", "fn m ( ) { } fn", "fn m ( ) { } m", "fn m ( ) { } { }", "fn m ( ) { ; }", "fn m ( ) { { } }", "fn m ( ) { fn f ( ) { } }", "fn m ( ) { 1 ; }", "fn m ( ) { f ( ) ; }", "fn m ( ) ( )", "fn m ( ) [ ]", "fn m ( ) { ] }",
		"fn m ( ) { say ; }", "fn m ( ) { say 1 }", "fn m ( ) { say 1", "fn m ( ) { say 1 ;", "fn m ( ) { say 1 ; ; }", "fn m ( ) { say 1 , 2 ; }", "fn m ( ) { say a 1 ; }", "fn m ( ) { say a = ; }", "fn m ( ) { say 256 ; }", "fn m ( ) { say ( 1 ; }", "fn m ( ) { say 1 ) ; }", "fn m ( ) { say { 1 } ; }",
		"fn m ( ) { let = 1 ; }", "fn m ( ) { let a 1 ; }", "fn m ( ) { let a = ; }", "fn m ( ) { let a ; }", "fn m ( ) { let if = 1 ; }", "fn m ( ) { let 1 = 1 ; }", "fn m ( ) { let a = 1 , 2 ; }", "fn m ( ) { let a + 1 ; }", "fn m ( ) { let ( a ) = 1 ; }", "fn m ( ) { let let a = 1 ; }", "fn m ( ) { let abcde = 1 ; }",
		"fn m ( ) { a ; }", "fn m ( ) { a = ; }", "fn m ( ) { = 1 ; }", "fn m ( ) { a 1 ; }", "fn m ( ) { 1 = a ; }", "fn m ( ) { else = a ; }", "fn m ( ) { a = b }", "fn m ( ) { ( a ) = 1 ; }", "fn m ( ) { @ 1 = 1 ; }", "fn m ( ) { a , b = 1 ; }",
		"fn m ( ) { put 1 ; }", "fn m ( ) { put 1 , ; }", "fn m ( ) { put , 1 ; }", "fn m ( ) { put 1 2 ; }", "fn m ( ) { put 1 , 2 , 3 ; }", "fn m ( ) { put ; }", "fn m ( ) { put ( 1 , 2 ) ; }", "fn m ( ) { put 1 = 2 ; }", "fn m ( ) { put f ( 1 , 2 ) ; }",
		"fn m ( ) { if { } }", "fn m ( ) { if 1 ; }", "fn m ( ) { if 1 }", "fn m ( ) { if 1 { }", "fn m ( ) { if 1 { } ; }", "fn m ( ) { if 1 { } else }", "fn m ( ) { if 1 { } else ; }", "fn m ( ) { if 1 { } else { }", "fn m ( ) { if 1 { } else say 1 ; }", "fn m ( ) { if 1 { } else if 2 { } }", "fn m ( ) { if 1 { } else { } else { } }", "fn m ( ) { if 1 else { } }", "fn m ( ) { else { } }", "fn m ( ) { if 1 , 2 { } }", "fn m ( ) { if ( 1 { } ) }",
		"fn m ( ) { loop { } }", "fn m ( ) { loop 1 ; }", "fn m ( ) { loop 1 { } else { } }", "fn m ( ) { loop 1 { } else { say 1 ; } }", "fn m ( ) { loop 1 { } ; }", "fn m ( ) { loop 1 { }", "fn m ( ) { loop 1 , 2 { } }",
		"fn m ( ) { back ; }", "fn m ( ) { back }", "fn m ( ) { back 1 , 2 ; }", "fn m ( ) { back { } }", "fn m ( ) { do ; }", "fn m ( ) { do 1 ; }", "fn m ( ) { do a ; }", "fn m ( ) { do ! f ( ) ; }", "fn m ( ) { do f ( ) + g ( ) ; }", "fn m ( ) { do f ( ) , g ( ) ; }", "fn m ( ) { do f ( ) }", "fn m ( ) { do f ; }", "fn m ( ) { do f ( a , b , c , d ) ; }",
		"fn m ( ) { sayx ; }", "fn m ( ) { lets a = 1 ; }", "fn m ( ) { iff { } }", "fn m ( ) { doo f ( ) ; }", "fn m ( ) { if 1 { } elsa { } }", "fnm ( ) { }", "fnx m ( ) { }",
		"fn m ( ) { say ! ! ! ! ! ! a ; }", "Fn m ( ) { }", "fn m ( ) { say 01 ; }", "fn m ( ) { } #", strings.Repeat("{", 600), strings.Repeat("fn m ( ) { ", 100), "fn m ( ) { " + strings.Repeat("if 1 { ", 190), "fn m ( ) { say " + strings.Repeat("(", 590),
		"fn m ( ) { " + strings.Repeat("loop 1 { ", 120) + strings.Repeat("} ", 121), "fn m ( ) { }" + strings.Repeat(" ", 2989),
	} {
		p, ok := impl.ReadProgram(s)
		if ok || !reflect.DeepEqual(plainProgram(p), impl.Program{}) || len(p.Fns) != 0 {
			t.Errorf("ReadProgram(%q) = %v, %v", s, p, ok)
		}
		checkReadProgram(t, s)
	}
	if !checkReadProgram(t, "fn m ( ) { }"+strings.Repeat(" ", 2988)) {
		t.Error("a text of 3000 bytes is refused")
	}
}

// TestReadProgramEndsEarly cuts texts behind each word: they are programs only behind a whole function.
func TestReadProgramEndsEarly(t *testing.T) {
	for _, s := range someTexts() {
		words := strings.Fields(s)
		for n := range words {
			whole := n > 0 && words[n] == "fn"
			if ok := checkReadProgram(t, strings.Join(words[:n], " ")); ok != whole {
				t.Errorf("%q up to the word %d is read: %v", s, n, ok)
			}
		}
		if !checkReadProgram(t, s) {
			t.Errorf("%q is not read", s)
		}
	}
}

// TestReadProgramOtherWords leaves out each word of texts, and puts each of many words in its place, or ahead of it.
func TestReadProgramOtherWords(t *testing.T) {
	others := append(append([]string{"a", "f", "0", "255", "256", "abcde", "A"}, wordKeys...), wordSigns...)
	for _, s := range someTexts() {
		words := strings.Fields(s)
		for i := range len(words) + 1 {
			for _, w := range others {
				checkReadProgram(t, strings.Join(slices.Insert(slices.Clone(words), i, w), " "))
				if i < len(words) {
					checkReadProgram(t, strings.Join(slices.Replace(slices.Clone(words), i, i+1, w), " "))
				}
			}
			if i < len(words) {
				checkReadProgram(t, strings.Join(slices.Delete(slices.Clone(words), i, i+1), " "))
			}
			if i+1 < len(words) {
				words[i], words[i+1] = words[i+1], words[i]
				checkReadProgram(t, strings.Join(words, "\n"))
				words[i], words[i+1] = words[i+1], words[i]
			}
		}
	}
}

// TestReadProgramShortTexts reads all texts of up to so many of these words, in these frames.
func TestReadProgramShortTexts(t *testing.T) {
	for _, c := range []struct {
		frame, list string
		most        int
	}{
		{"?", "fn m ( ) { } ,", 6},
		{"fn m ( ? ) { }", "a b , ( ) do 1", 5},
		{"fn m ( ) { ? }", "a = ; let say 1 put ,", 5},
		{"fn m ( ) { ? }", "if a { } else loop ;", 6},
		{"fn m ( ) { if a { ? }", "} else { say a ;", 6},
		{"fn m ( ) { ? ; }", "do back f ( ) a ,", 5},
	} {
		words := strings.Fields(c.list)
		var walk func(s string, left int)
		walk = func(s string, left int) {
			checkReadProgram(t, strings.Replace(c.frame, "?", s, 1))
			for _, w := range words {
				if left > 0 {
					walk(s+" "+w, left-1)
				}
			}
		}
		walk("", c.most)
	}
}

// TestReadProgramRandomTexts reads texts of random programs, with a word left out, put in, or written twice, and with an
// empty Else behind some brackets.
func TestReadProgramRandomTexts(t *testing.T) {
	rnd := rand.New(rand.NewSource(13))
	read := 0
	for range 5000 {
		p := someProgram(rnd)
		words := strings.Fields(wantWords(p))
		if checkReadProgram(t, strings.Join(words, " ")) {
			read++
		}
		at := rnd.Intn(len(words))
		switch rnd.Intn(3) {
		case 0:
			words = slices.Delete(words, at, at+1)
		case 1:
			words = slices.Insert(words, at, words[rnd.Intn(len(words))])
		case 2:
			if shut := slices.Index(words[at:], "}"); shut >= 0 {
				words = slices.Insert(words, at+shut+1, "else", "{", "}")
			}
		}
		checkReadProgram(t, strings.Join(words, "\n"))
	}
	if read < 1000 {
		t.Errorf("only %d texts are read", read)
	}
}

func TestProgramNestLimit(t *testing.T) {
	for n := range 8 {
		for _, s := range []impl.Stmt{say(num(1)), when(num(1), nil, nil), loop(num(1))} {
			deep := within(n, s)
			if got := impl.StmtValid(deep); got != (n < 4) {
				t.Errorf("StmtValid of what is nested %d deep is %v", n+1, got)
			}
			want := n + 1
			if want > 4 {
				want = -1
			}
			for _, p := range []impl.Program{mainOf(deep), mainOf(say(num(1)), deep, say(num(2))), program(fn("f", nil, deep), fn("m", nil, s)), program(fn("f", nil, s), fn("m", nil, deep))} {
				if got := impl.NestOf(p); got != want || impl.ProgramValid(p) != (n < 4) {
					t.Errorf("NestOf(%v) = %d; want %d", p, got, want)
				}
				checkProgram(t, p)
				checkReadProgram(t, wantWords(p))
			}
		}
		checkStmt(t, within(n, say(num(1))))
	}
	// each way from the block 3 deep to one 4 deep, and from that to one 5 deep
	for _, s := range []impl.Stmt{when(num(1), block(say(num(1))), nil), when(num(1), nil, block(say(num(1)))), loop(num(1), say(num(1)))} {
		if !impl.StmtValid(within(2, s)) || impl.StmtValid(within(3, s)) {
			t.Errorf("StmtValid of %v, nested", s)
		}
	}
	if got := impl.NestOf(program(fn("f", nil), fn("m", nil))); got != 0 {
		t.Errorf("NestOf of functions without statements = %d", got)
	}
}

// spread are programs of exactly so many statements, which stand in one function, in several ones, or in others.
func spread(n int) []impl.Program {
	half := says(n / 2)
	rest := says(n - n/2)
	return []impl.Program{
		mainOf(says(n)...),
		program(fn("f", nil, half...), fn("m", nil, rest...)),
		program(fn("f", nil, says(n)...), fn("m", nil)),
		mainOf(loop(num(1), says(n-1)...)),
		mainOf(when(num(1), nil, says(n-1))),
		mainOf(when(num(1), half, says(n-1-len(half)))),
		mainOf(append(says(n-3), within(2, say(num(1))))...),
	}
}

func TestProgramStmtsLimit(t *testing.T) {
	for n := 3; n <= 45; n++ {
		for _, p := range spread(n) {
			want := n
			if n > 40 {
				want = -1
			}
			if got := impl.StmtCount(p); got != want || impl.ProgramValid(p) != (n <= 40) {
				t.Errorf("StmtCount of %d statements is %d", n, got)
			}
			checkProgram(t, p)
			if checkReadProgram(t, wantWords(p)) != (n <= 40) {
				t.Errorf("a program of %d statements is read: %v", n, n > 40)
			}
		}
	}
	if got := impl.StmtCount(mainOf()); got != 0 {
		t.Errorf("StmtCount of no statement = %d", got)
	}
	for _, n := range []int{39, 40, 41, 1000} { // a statement is valid with as many others in it as one likes
		for _, s := range []impl.Stmt{loop(num(1), says(n)...), when(num(1), says(n), says(n)), within(2, loop(num(1), says(n)...))} {
			if !impl.StmtValid(s) || !wantStmtValid(s) {
				t.Errorf("a statement with %d others is not valid", n)
			}
		}
	}
}

func TestProgramFnsLimit(t *testing.T) {
	for n := range 7 {
		var p impl.Program
		for range n {
			p.Fns = append(p.Fns, fn("f", params("a"), say(num(1))))
		}
		if checkProgram(t, p) != (n >= 1 && n <= 4) {
			t.Errorf("a program of %d functions is valid: %v", n, n < 1 || n > 4)
		}
		if checkReadProgram(t, wantWords(p)) != (n >= 1 && n <= 4) {
			t.Errorf("a program of %d functions is read: %v", n, n < 1 || n > 4)
		}
	}
}

func TestProgramParamsLimit(t *testing.T) {
	for n := range 6 {
		list := []string{"a", "b", "c", "d", "a"}[:n]
		for _, p := range []impl.Program{program(fn("m", list)), program(fn("f", list), fn("m", nil)), program(fn("f", params("a", "b", "c")), fn("m", list, say(num(1))))} {
			if checkProgram(t, p) != (n <= 3) {
				t.Errorf("a function of %d Params is valid: %v", n, n > 3)
			}
			if checkReadProgram(t, wantWords(p)) != (n <= 3) {
				t.Errorf("a function of %d Params is read: %v", n, n > 3)
			}
		}
	}
}

// ofWords is a valid program with so many words, which are at least 9.
func ofWords(n int) impl.Program {
	p := mainOf()
	for {
		e := full(4)
		left := n - len(strings.Fields(wantWords(p)))
		switch {
		case left == 0:
			return p
		case left <= 8:
			e = nots(11, left-3)
		case left < 30: // a statement has 3 words at least, so as many must be left
			e = nots(11, 3)
		}
		p.Fns[0].Body = append(p.Fns[0].Body, say(e))
	}
}

func TestProgramTextWordsLimit(t *testing.T) {
	for _, n := range []int{9, 100, 598, 599, 600, 601, 602, 603, 700} {
		p := ofWords(n)
		text := wantWords(p)
		if got := len(strings.Fields(text)); got != n {
			t.Fatalf("ofWords(%d) has %d words", n, got)
		}
		if !checkProgram(t, p) {
			t.Fatalf("ofWords(%d) is not valid", n)
		}
		if got, ok := impl.ProgramText(p); ok != (n <= 600) || ok != (got != "") {
			t.Errorf("ProgramText of %d words is %v", n, ok)
		}
		if checkReadProgram(t, text) != (n <= 600) {
			t.Errorf("a text of %d words is read: %v", n, n > 600)
		}
	}
	// as long as programs can be: 40 statements of two expressions of 30 parts
	great := mainOf()
	for range 40 {
		great.Fns[0].Body = append(great.Fns[0].Body, put(withCalls(30), withCalls(30)))
	}
	if !checkProgram(t, great) {
		t.Error("a program whose text is too long is not valid")
	}
}

// otherStmts are small changes of a statement, most of which make it wrong.
func otherStmts(s impl.Stmt) []impl.Stmt {
	var list []impl.Stmt
	add := func(change func(x *impl.Stmt)) {
		x := plainBlock(block(s))[0]
		change(&x)
		list = append(list, x)
	}
	for _, o := range []int{-1 << 63, -8, -1, 0, 1, 2, 3, 4, 5, 6, 7, 8, 9, 10, 13, 1 << 40} {
		add(func(x *impl.Stmt) { x.Op = o })
	}
	for _, n := range []string{"", "b", "abcd", "abcde", "fn", "do", "else", "A", "1", "a1", " ", "=", "a ", "\xff"} {
		add(func(x *impl.Stmt) { x.Name = n })
	}
	for _, e := range []impl.Expr{{}, num(1), num(256), variable("a"), variable("fn"), call("f"), call("do"), call("f", num(-1)), nots(11, 5), nots(11, 6), withParts(30), withParts(31), plus(call("f"), num(1)), not(call("f"))} {
		add(func(x *impl.Stmt) { x.Args = []impl.Expr{e} })
		add(func(x *impl.Stmt) { x.Args = []impl.Expr{num(1), e} })
		add(func(x *impl.Stmt) { x.Args = []impl.Expr{e, num(1)} })
		add(func(x *impl.Stmt) { x.Args = append(x.Args, e) })
	}
	add(func(x *impl.Stmt) { x.Args = nil })
	add(func(x *impl.Stmt) { x.Args = []impl.Expr{} })
	for _, body := range [][]impl.Stmt{nil, {}, says(1), {{}}, {say(num(256))}, {say(num(1)), {Op: 3}}, {loop(num(1), impl.Stmt{Op: 9})}} {
		add(func(x *impl.Stmt) { x.Body = body })
		add(func(x *impl.Stmt) { x.Else = body })
		add(func(x *impl.Stmt) { x.Body, x.Else = body, body })
	}
	return list
}

func TestStmtsThatAreWrong(t *testing.T) {
	for _, s := range kinds() {
		for _, other := range otherStmts(s) {
			checkStmt(t, other)
		}
	}
	for _, s := range []impl.Stmt{
		{}, {Op: 9}, {Op: -1}, {Op: 1}, {Op: 2}, {Op: 3}, {Op: 4}, {Op: 5}, {Op: 6}, {Op: 7}, {Op: 8}, {Op: 0, Args: []impl.Expr{num(1)}}, {Op: 9, Args: []impl.Expr{num(1)}},
		let("", num(1)), let("fn", num(1)), set("back", num(1)), set("abcde", num(1)), say(num(256)), say(impl.Expr{}), put(num(1), impl.Expr{}), put(num(-1), num(1)), back(nots(12, 6)),
		do(num(1)), do(variable("a")), do(not(call("f"))), do(plus(call("f"), call("f"))), do(call("f", num(1), num(1), num(1), num(1))),
		{Op: 3, Name: "a", Args: []impl.Expr{num(1)}}, {Op: 5, Name: "a", Args: []impl.Expr{num(1)}}, {Op: 3, Args: []impl.Expr{num(1), num(1)}}, {Op: 4, Args: []impl.Expr{num(1)}}, {Op: 4, Args: []impl.Expr{num(1), num(1), num(1)}}, {Op: 5, Args: []impl.Expr{num(1), num(1)}},
		{Op: 3, Args: []impl.Expr{num(1)}, Body: says(1)}, {Op: 7, Args: []impl.Expr{num(1)}, Else: says(1)}, {Op: 6, Args: []impl.Expr{num(1)}, Else: says(1)}, {Op: 6, Args: []impl.Expr{num(1)}, Body: says(1), Else: says(1)},
		loop(num(1), impl.Stmt{}), when(num(1), block(impl.Stmt{}), nil), when(num(1), nil, block(impl.Stmt{})), when(num(1), nil, block(say(num(1)), do(num(1)))),
	} {
		if impl.StmtValid(s) {
			t.Errorf("%v is valid", s)
		}
		for _, p := range []impl.Program{mainOf(s), mainOf(say(num(1)), s), program(fn("f", nil, s), fn("m", nil)), mainOf(loop(num(1), s)), mainOf(when(num(1), nil, block(s)))} {
			text, ok := impl.ProgramText(p)
			if impl.ProgramValid(p) || impl.StmtCount(p) != -1 || impl.NestOf(p) != -1 || ok || text != "" {
				t.Errorf("a program with %v is valid", s)
			}
			checkProgram(t, p)
		}
	}
}

func TestFnsThatAreWrong(t *testing.T) {
	for _, s := range []string{"", "fn", "let", "say", "put", "if", "else", "loop", "back", "do", "abcde", "A", "1", "a1", " a", "(", "a b", "é", "\xff"} {
		for _, p := range []impl.Program{
			program(fn(s, nil)), program(fn("f", nil), fn(s, nil)), program(fn(s, nil), fn("f", nil)), program(fn("f", params(s))), program(fn("f", params("a", s))),
			program(fn("f", params(s, "a", "b"))), program(fn("f", params("a", "b", s)), fn("m", nil, say(num(1)))), program(fn("f", nil), fn("g", nil), fn("h", nil), fn("m", params(s))),
		} {
			text, ok := impl.ProgramText(p)
			if impl.ProgramValid(p) || impl.StmtCount(p) != -1 || impl.NestOf(p) != -1 || ok || text != "" {
				t.Errorf("%v is valid", p)
			}
			checkProgram(t, p)
		}
	}
	for _, s := range []string{"f", "m", "ab", "abc", "abcd", "zzzz", "fnx", "doo", "va"} {
		if !checkProgram(t, program(fn(s, params(s, s, s)), fn(s, nil))) {
			t.Errorf("the name %q is refused", s)
		}
	}
}

func TestFnAt(t *testing.T) {
	p := program(fn("f", nil), fn("g", params("x")), fn("f", nil, say(variable("y"))), fn("m", nil))
	for s, want := range map[string]int{"f": 0, "g": 1, "m": 3, "x": -1, "y": -1, "": -1, "F": -1, "ff": -1, "fn": -1} {
		if got := impl.FnAt(p, s); got != want {
			t.Errorf("FnAt(%q) = %d; want %d", s, got, want)
		}
	}
	wrong := program(fn("abcde", nil), fn("", nil, impl.Stmt{}), fn("fn", nil), fn("\xff", params("1")), fn("", nil), fn("m", nil), fn("m", nil))
	for s, want := range map[string]int{"abcde": 0, "": 1, "fn": 2, "\xff": 3, "m": 5, "a": -1} {
		if got := impl.FnAt(wrong, s); got != want {
			t.Errorf("FnAt(%q) of what is not valid = %d; want %d", s, got, want)
		}
	}
	if impl.FnAt(impl.Program{}, "") != -1 || impl.FnAt(impl.Program{}, "m") != -1 {
		t.Error("FnAt of no functions is not -1")
	}
}

// otherPrograms are small changes of all parts of a program.
func otherPrograms(p impl.Program) []impl.Program {
	var list []impl.Program
	add := func(change func(x *impl.Program)) {
		x := plainProgram(p)
		change(&x)
		list = append(list, x)
	}
	add(func(x *impl.Program) {})
	add(func(x *impl.Program) { x.Fns = append(x.Fns, impl.Fn{}) })
	add(func(x *impl.Program) { slices.Reverse(x.Fns) })
	for i, f := range p.Fns {
		add(func(x *impl.Program) { x.Fns = slices.Delete(x.Fns, i, i+1) })
		for _, s := range []string{"", "q", "f", "do"} {
			add(func(x *impl.Program) { x.Fns[i].Name = s })
			add(func(x *impl.Program) { x.Fns[i].Params = append(x.Fns[i].Params, s) })
			for k := range f.Params {
				add(func(x *impl.Program) { x.Fns[i].Params[k] = s })
			}
		}
		for k := range f.Params {
			add(func(x *impl.Program) { x.Fns[i].Params = slices.Delete(x.Fns[i].Params, k, k+1) })
		}
		for _, body := range otherBlocks(f.Body) {
			add(func(x *impl.Program) { x.Fns[i].Body = body })
		}
	}
	return list
}

// otherBlocks are small changes of all statements of a block, and of all in them.
func otherBlocks(list []impl.Stmt) [][]impl.Stmt {
	others := [][]impl.Stmt{append(plainBlock(list), impl.Stmt{})}
	for i, s := range list {
		with := func(x impl.Stmt) []impl.Stmt {
			changed := plainBlock(list)
			changed[i] = x
			return changed
		}
		others = append(others, slices.Delete(plainBlock(list), i, i+1))
		for _, x := range otherStmts(s) {
			others = append(others, with(x))
		}
		for _, body := range otherBlocks(s.Body) {
			x := s
			x.Body = body
			others = append(others, with(x))
		}
		for _, body := range otherBlocks(s.Else) {
			x := s
			x.Else = body
			others = append(others, with(x))
		}
		for k := range s.Args {
			for _, e := range changes(s.Args[k]) {
				x := plainBlock(block(s))[0]
				x.Args[k] = e
				others = append(others, with(x))
			}
		}
	}
	return others
}

func TestSamePrograms(t *testing.T) {
	list := []impl.Program{{}, {Fns: []impl.Fn{{}}}, {Fns: []impl.Fn{{Name: "what", Body: []impl.Stmt{{Op: 99, Name: "so", Body: []impl.Stmt{{}, {}}}}}}}}
	for _, s := range someTexts() {
		p, ok := wantReadProgram(s)
		if !ok {
			t.Fatalf("%q is no program", s)
		}
		list = append(list, p)
	}
	list = append(list, mainOf(kinds()...))
	rnd := rand.New(rand.NewSource(14))
	for range 30 {
		list = append(list, someProgram(rnd))
	}
	for _, a := range list {
		for _, b := range list {
			if got := impl.SamePrograms(a, plainProgram(b)); got != equalPrograms(a, b) {
				t.Fatalf("SamePrograms(%v, %v) is %v", a, b, got)
			}
		}
	}
	same, differ := 0, 0
	for _, a := range list[:12] {
		for _, b := range otherPrograms(a) {
			want := equalPrograms(a, b)
			if got := impl.SamePrograms(a, b); got != want || impl.SamePrograms(b, a) != want {
				t.Fatalf("SamePrograms(%v, %v) is %v", a, b, got)
			}
			if want {
				same++
			} else {
				differ++
			}
		}
	}
	if same < 20 || differ < 2000 {
		t.Errorf("%d changes are the same, %d are not", same, differ)
	}
	empty := impl.Program{Fns: []impl.Fn{{Name: "m", Params: []string{}, Body: []impl.Stmt{{Op: 5, Args: []impl.Expr{{Kids: []impl.Expr{}}}, Body: []impl.Stmt{}, Else: make([]impl.Stmt, 0, 3)}}}}}
	if !impl.SamePrograms(empty, plainProgram(empty)) || !impl.SamePrograms(impl.Program{}, impl.Program{Fns: []impl.Fn{}}) {
		t.Error("an empty list differs from none")
	}
}

// ring is a program whose statement has itself in its Body, or its Else, at the end of n statements; the first one is of
// the Op o, all others are StmtIf.
func ring(n int, o int, other bool) impl.Program {
	lists := make([][]impl.Stmt, n)
	for i := range lists {
		lists[i] = make([]impl.Stmt, 1)
	}
	for i := range lists {
		next := lists[(i+1)%n]
		lists[i][0] = when(num(1), next, nil)
		if other {
			lists[i][0] = when(num(1), nil, next)
		}
	}
	lists[0][0].Op = o
	return mainOf(lists[0]...)
}

func TestProgramsThatHoldThemselves(t *testing.T) {
	arg := mainOf(say(endless(3, 11)))
	for _, p := range []impl.Program{ring(1, 5, false), ring(3, 5, false), ring(3, 6, false), ring(2, 5, true), arg, mainOf(say(num(1)), ring(1, 6, false).Fns[0].Body[0])} {
		text, ok := impl.ProgramText(p)
		if ok || text != "" || impl.ProgramValid(p) || impl.StmtCount(p) != -1 || impl.NestOf(p) != -1 || impl.FnAt(p, "m") != 0 {
			t.Error("an endless program is valid")
		}
		if s := p.Fns[0].Body; impl.StmtValid(s[len(s)-1]) {
			t.Error("an endless statement is valid")
		}
	}
	for i, c := range []struct {
		a, b impl.Program
		want bool
	}{
		{ring(1, 5, false), ring(1, 5, false), true},
		{ring(1, 5, false), ring(3, 5, false), true},
		{ring(4, 5, true), ring(6, 5, true), true},
		{ring(3, 6, false), ring(3, 6, false), true},
		{ring(3, 6, false), ring(6, 6, false), false},
		{ring(3, 6, false), ring(3, 5, false), false},
		{ring(2, 5, false), ring(2, 5, true), false},
		{ring(1, 5, false), mainOf(when(num(1), nil, nil)), false},
		{ring(1, 5, false), mainOf(within(50, when(num(1), nil, nil))), false},
		{arg, mainOf(say(endless(3, 11))), true},
		{arg, mainOf(say(endless(3, 12))), false},
	} {
		if impl.SamePrograms(c.a, c.b) != c.want || impl.SamePrograms(c.b, c.a) != c.want {
			t.Errorf("SamePrograms of the endless programs %d is %v", i, !c.want)
		}
	}
}

func TestProgramsThatAreGreat(t *testing.T) {
	long, again := says(1), says(1)
	shared, twin := says(1), says(1)
	for range 200000 {
		long, again = block(loop(num(1), long...)), block(loop(num(1), again...))
	}
	for range 60 {
		shared, twin = block(when(num(1), shared, shared)), block(when(num(1), twin, twin))
	}
	wide := says(300000)
	for _, list := range [][]impl.Stmt{long, shared, wide} {
		p := mainOf(list...)
		if text, ok := impl.ProgramText(p); ok || text != "" || impl.ProgramValid(p) || impl.StmtCount(p) != -1 || impl.NestOf(p) != -1 {
			t.Error("a great program is valid")
		}
	}
	if impl.StmtValid(long[0]) || impl.StmtValid(shared[0]) || !impl.StmtValid(loop(num(1), wide...)) {
		t.Error("StmtValid of great statements")
	}
	if !impl.SamePrograms(mainOf(long...), mainOf(again...)) || !impl.SamePrograms(mainOf(shared...), mainOf(twin...)) || !impl.SamePrograms(mainOf(wide...), mainOf(says(300000)...)) {
		t.Error("SamePrograms of great programs is false")
	}
	if impl.SamePrograms(mainOf(long...), mainOf(again[0].Body...)) || impl.SamePrograms(mainOf(shared...), mainOf(twin[0].Body...)) || impl.SamePrograms(mainOf(wide...), mainOf(says(300001)...)) {
		t.Error("SamePrograms of other great programs is true")
	}
	fns := make([]impl.Fn, 300000)
	if impl.ProgramValid(program(fns...)) || impl.FnAt(program(fns...), "m") != -1 || impl.ProgramValid(program(fn("m", make([]string, 300000)))) || impl.StmtValid(impl.Stmt{Op: 3, Args: make([]impl.Expr, 300000)}) {
		t.Error("great lists are valid")
	}
}

// memoryOf adds all memory that the lists of a value have, as pairs of a first place and the one behind.
func memoryOf(v reflect.Value, add func(from uintptr, to uintptr)) {
	switch v.Kind() {
	case reflect.Slice:
		add(v.Pointer(), v.Pointer()+uintptr(v.Cap())*v.Type().Elem().Size())
		for i := range v.Len() {
			memoryOf(v.Index(i), add)
		}
	case reflect.Struct:
		for i := range v.NumField() {
			memoryOf(v.Field(i), add)
		}
	}
}

// memoryIn are the places of all lists of values, as pairs of a first place and the one behind, ascending.
func memoryIn(list ...any) [][2]uintptr {
	var memory [][2]uintptr
	for _, v := range list {
		memoryOf(reflect.ValueOf(v), func(from uintptr, to uintptr) {
			if from < to {
				memory = append(memory, [2]uintptr{from, to})
			}
		})
	}
	slices.SortFunc(memory, func(a, b [2]uintptr) int { return int(a[0]) - int(b[0]) })
	return memory
}

// shareMemory tells whether two lists that are in these values have memory in common.
func shareMemory(list ...any) bool {
	memory := memoryIn(list...)
	for i := 1; i < len(memory); i++ {
		if memory[i][0] < memory[i-1][1] {
			return true
		}
	}
	return false
}

func TestProgramResultsAreTheirOwn(t *testing.T) {
	texts := someTexts()
	for _, s := range texts {
		p, ok := impl.ReadProgram(s)
		again, _ := impl.ReadProgram(s)
		if !ok {
			t.Fatalf("ReadProgram(%q) is false", s)
		}
		if shareMemory(p, again) {
			t.Errorf("lists of the program of %q share memory", s)
		}
		want := plainProgram(p)
		for i := range p.Fns {
			p.Fns[i] = impl.Fn{Name: "spoilt"}
		}
		if !equalPrograms(again, want) {
			t.Errorf("two results of ReadProgram(%q) share memory", s)
		}
		if third, _ := impl.ReadProgram(s); !equalPrograms(third, want) {
			t.Errorf("ReadProgram(%q) keeps what is written to its result", s)
		}
	}
}

// TestProgramsLeaveMemoryAlone has lists with more memory behind them, which is not to be read or written.
func TestProgramsLeaveMemoryAlone(t *testing.T) {
	stmts := []impl.Stmt{say(num(1)), back(num(2)), {Op: 77}, {Op: 78}}
	exprs := []impl.Expr{variable("a"), num(1), {Op: 79}}
	names := []string{"a", "b", "abcde"}
	fns := []impl.Fn{
		{Name: "f", Params: names[:2], Body: stmts[:2]},
		{Name: "m", Params: names[:0], Body: []impl.Stmt{{Op: 5, Args: exprs[:1], Body: stmts[:1], Else: stmts[:2]}, {Op: 4, Args: exprs[:2], Body: stmts[:0], Else: stmts[:0]}}},
		{Name: "else"},
	}
	beforeStmts, beforeExprs, beforeNames, beforeFns := plainBlock(stmts), plainArgs(exprs), slices.Clone(names), plainProgram(impl.Program{Fns: fns})
	p := impl.Program{Fns: fns[:2]}
	if !checkProgram(t, p) || impl.FnAt(p, "else") != -1 || !impl.StmtValid(p.Fns[1].Body[0]) || !impl.StmtValid(p.Fns[1].Body[1]) {
		t.Errorf("%v is not valid", p)
	}
	if !reflect.DeepEqual(plainBlock(stmts), beforeStmts) || !reflect.DeepEqual(plainArgs(exprs), beforeExprs) || !slices.Equal(names, beforeNames) || !equalPrograms(impl.Program{Fns: fns}, beforeFns) {
		t.Error("what was given has been changed")
	}
}
