package tests

import (
	"fmt"
	"math"
	"math/rand"
	"slices"
	"strings"
	"testing"

	"loop.example/wholeway/impl"
)

// The lowering of the document's chapter 9, told a second time and in another way than the program tells it: the words of a
// program are gone over once, as they stand, and what they ask for is written as lines of the texts of codes.
type wordLower struct {
	words   []string
	numbers []int // of each word that is a variable its number in its function, which is its register
	fns     []string
	at      int
	regs    int
	blocks  int
	now     int            // the block that is being filled
	lines   map[int]string // what has been written of each block
}

// word goes behind the next word, and tells it.
func (l *wordLower) word() string {
	l.at++
	return l.words[l.at-1]
}

func (l *wordLower) line(form string, list ...any) {
	l.lines[l.now] += fmt.Sprintf(form, list...) + "\n"
}

// fresh writes a line that sets a new register, and tells this.
func (l *wordLower) fresh(form string, list ...any) int {
	l.line(fmt.Sprintf("r%d = ", l.regs)+form, list...)
	l.regs++
	return l.regs - 1
}

// named names so many blocks, and tells the first one.
func (l *wordLower) named(n int) int {
	l.blocks += n
	return l.blocks - n
}

// reckon goes over what stands next, up to an op of a lower level, and tells the register of its value.
func (l *wordLower) reckon(level int) int {
	if level == 5 {
		return l.single()
	}
	a := l.reckon(level + 1)
	for l.at < len(l.words) && wordLevels[l.words[l.at]] == level {
		sign := l.word()
		if sign != "&" {
			b := l.reckon(level + 1)
			for word, s := range insSigns {
				if s == sign {
					a = l.fresh("%s r%d r%d", word, a, b)
					break
				}
			}
			continue
		}
		t, right := l.fresh("num 0"), l.named(2)
		l.line("if r%d %d %d", a, right, right+1)
		l.now = right
		n := l.fresh("not r%d", l.reckon(level+1))
		l.line("r%d = not r%d", t, n)
		l.line("go %d", right+1)
		l.now, a = right+1, t
	}
	return a
}

// single goes over what no op between two cuts apart.
func (l *wordLower) single() int {
	i := l.at
	switch w := l.word(); {
	case w == "(":
		r := l.reckon(1)
		l.word()
		return r
	case w == "!":
		return l.fresh("not r%d", l.reckon(5))
	case w == "@":
		return l.fresh("at r%d", l.reckon(5))
	case l.numbers[i] >= 0:
		return l.numbers[i]
	case l.words[l.at] == "(" && wantValid(name(w)):
		return l.called(w)
	default:
		return l.fresh("num %s", w)
	}
}

// called goes over what is handed to a function.
func (l *wordLower) called(s string) int {
	args := ""
	for l.word(); l.words[l.at-1] != ")"; l.word() {
		if l.words[l.at] != ")" {
			args += regWords(l.reckon(1))
		}
	}
	return l.fresh("call %d%s", slices.Index(l.fns, s), args)
}

func (l *wordLower) block() {
	for l.word(); l.words[l.at] != "}"; {
		l.statement()
	}
	l.word()
}

func (l *wordLower) statement() {
	i := l.at
	switch w := l.word(); w {
	case "if":
		l.choice()
		return
	case "loop":
		l.turns()
		return
	case "say":
		l.line("say r%d", l.reckon(1))
	case "put":
		r := l.reckon(1)
		l.word()
		l.line("put r%d r%d", r, l.reckon(1))
	case "do":
		l.reckon(1)
	case "back":
		l.line("back r%d", l.reckon(1))
		l.now = l.named(1)
	default:
		if w == "let" {
			i++
			l.word()
		}
		l.word()
		l.line("r%d = copy r%d", l.numbers[i], l.reckon(1))
	}
	l.word()
}

func (l *wordLower) choice() {
	on := l.reckon(1)
	then := l.named(3)
	l.line("if r%d %d %d", on, then, then+1)
	l.now = then
	l.block()
	l.line("go %d", then+2)
	l.now = then + 1
	if l.words[l.at] == "else" {
		l.word()
		l.block()
	}
	l.line("go %d", then+2)
	l.now = then + 2
}

func (l *wordLower) turns() {
	test := l.named(3)
	l.line("go %d", test)
	l.now = test
	l.line("if r%d %d %d", l.reckon(1), test+1, test+2)
	l.now = test + 1
	l.block()
	l.line("go %d", test)
	l.now = test + 2
}

// wantLowered are the texts of the codes of a program, valid or not; nothing if something is wrong with the program.
func wantLowered(p impl.Program) []string {
	s := scanOf(p)
	if s.code != 0 {
		return nil
	}
	var texts []string
	l := &wordLower{words: s.words, numbers: s.numbers}
	for k, name := range s.fns {
		for l.words[l.at] != "{" {
			l.word()
		}
		l.regs, l.blocks, l.now, l.lines = s.vars[k], 1, 0, map[int]string{}
		l.block()
		l.line("back r%d", l.fresh("num 0"))
		l.fns = append(l.fns, name)
		text := fmt.Sprintf("code %d %d\n", s.takes[k], l.regs)
		for b := range l.blocks {
			text += fmt.Sprintf("%d:\n%s", b, l.lines[b])
		}
		texts = append(texts, text)
	}
	return texts
}

// wantUnit is the unit that LowerProgram should return, with the texts of its codes.
func wantUnit(p impl.Program) (impl.Unit, []string, bool) {
	texts := wantLowered(p)
	u := unitOf(strings.Join(texts, ""))
	if wantInsCount(u) < 0 {
		return impl.Unit{}, nil, false
	}
	return u, texts, true
}

// wantVarReg is what VarReg of a program that is lowered, and has these words, should return.
func wantVarReg(s *scan, k int, name string) int {
	least, fns := -1, -1
	for i, w := range s.words {
		if w == "fn" {
			fns++
		}
		if n := s.numbers[i]; fns == k && w == name && n >= 0 && (least < 0 || n < least) {
			least = n
		}
	}
	return least
}

// checkLower compares all that the program tells of the unit of a program, valid or not, with what it should tell, and checks
// promise 9 on it. It reports whether there is one.
func checkLower(t *testing.T, p impl.Program) bool {
	t.Helper()
	before := plainProgram(p)
	want, texts, wantOk := wantUnit(p)
	got, ok := impl.LowerProgram(p)
	if ok != wantOk || !equalUnits(got, want) {
		t.Fatalf("LowerProgram(%v) = %v, %v; want %q", p, got, ok, texts)
	}
	if text := impl.UnitText(got); text != strings.Join(texts, "") || impl.UnitValid(got) != ok {
		t.Fatalf("the text of the unit of %v is %q; want %q", p, text, texts)
	}
	if size := impl.LowerSize(p); size != wantInsCount(want) {
		t.Fatalf("LowerSize(%v) = %d; want %d", p, size, wantInsCount(want))
	}
	for _, k := range someIndexes(len(p.Fns)) {
		blocks := -1
		if ok && k >= 0 && k < len(p.Fns) {
			blocks = len(want.Codes[k].Blocks)
		}
		if got := impl.LowerBlocks(p, k); got != blocks {
			t.Fatalf("LowerBlocks(%v, %d) = %d; want %d", p, k, got, blocks)
		}
		if reg := impl.VarReg(p, k, "a"); blocks < 0 && reg != -1 {
			t.Fatalf("VarReg(%v, %d) = %d", p, k, reg)
		}
	}
	if sharesWith(p, got) {
		t.Fatalf("the unit of %v shares memory: %v", p, got)
	}
	if ok {
		checkVarRegs(t, p, want)
		checkMeaning(t, p, got)
	}
	if !equalPrograms(p, before) {
		t.Fatalf("%v became %v", before, p)
	}
	return ok
}

// checkVarRegs compares VarReg of a program that is lowered, for all names in it and another one, and checks that each
// register of a variable that has a name of its own is told.
func checkVarRegs(t *testing.T, p impl.Program, u impl.Unit) {
	t.Helper()
	told := scanOf(p)
	names := slices.DeleteFunc(append(slices.Clone(told.words), "zzzz"), func(s string) bool { return !wantValid(name(s)) })
	slices.Sort(names)
	for _, s := range slices.Compact(names) {
		for k := range p.Fns {
			if got, want := impl.VarReg(p, k, s), wantVarReg(told, k, s); got != want {
				t.Fatalf("VarReg(%v, %d, %q) = %d; want %d", p, k, s, got, want)
			}
		}
	}
	renamed, ok := impl.RenameProgram(p)
	for k := range renamed.Fns {
		n := impl.CountVars(p, k)
		for r := range n {
			if got := impl.VarReg(renamed, k, "v"+string(rune('a'+r))); got != r || r >= u.Codes[k].Regs {
				t.Fatalf("the variable %d of %v has the register %d", r, renamed, got)
			}
		}
	}
	if again, _ := impl.LowerProgram(renamed); ok && !equalUnits(again, u) {
		t.Fatalf("%v with other names is lowered to %v", p, again)
	}
}

// endsOfMeanings counts how the runs end that are the same.
var endsOfMeanings = map[int]int{}

// checkMeaning checks promise 9 on a program and its unit: both do the same as long as both have fuel and steps, and up to
// there if one of them has none left.
func checkMeaning(t *testing.T, p impl.Program, u impl.Unit) {
	t.Helper()
	for i, in := range impl.InputsFor(p) {
		if i > 0 && len(in) == 0 {
			break
		}
		o, ok := impl.RunProgram(p, in, 4000)
		v, okUnit := impl.RunUnit(u, in, 60000)
		if !ok || !okUnit {
			t.Fatalf("%v or its unit %v is not run with %v", p, u, in)
		}
		endsOfMeanings[max(o.End, v.End)]++
		both := min(len(o.Said), len(v.Said))
		switch {
		case o.End == 3 || v.End == 3:
			ahead := o.End != 3 && both < len(v.Said) || v.End != 3 && both < len(o.Said)
			if ahead || !slices.Equal(o.Said[:both], v.Said[:both]) {
				t.Fatalf("%v with %v tells %v, its unit %v", p, in, o, v)
			}
		case !equalOutcomes(o, v):
			t.Fatalf("%v with %v tells %v, its unit %v", p, in, o, v)
		}
		// a statement takes less than 200 steps, beside those of other statements
		if need := impl.FuelOf(p, in); need >= 0 && need < 180 && v.End == 3 {
			t.Fatalf("%v with %v takes %d of fuel, its unit too many steps", p, in, need)
		}
	}
}

// lowerCase is a program with the lines of its unit, told by hand.
type lowerCase struct{ s, want string }

// linesOfText has a newline behind each line of a text, in place of `; `.
func linesOfText(s string) string { return strings.ReplaceAll(s, "; ", "\n") + "\n" }

func checkLowerCases(t *testing.T, list []lowerCase) {
	t.Helper()
	for _, c := range list {
		p := read(t, c.s)
		u, ok := impl.LowerProgram(p)
		if text := impl.UnitText(u); !ok || text != linesOfText(c.want) {
			t.Errorf("LowerProgram(%q) = %q, %v; want %q", c.s, text, ok, linesOfText(c.want))
		}
		size, blocks := 0, 0
		for _, line := range strings.Split(c.want, "; ") {
			for _, word := range []string{"=", "say", "put"} {
				size += strings.Count(" "+line, " "+word+" ")
			}
			blocks += strings.Count(line, ":")
			if strings.HasPrefix(line, "code") {
				blocks = 0
			}
		}
		if n, b := impl.LowerSize(p), impl.LowerBlocks(p, len(p.Fns)-1); n != size || b != blocks {
			t.Errorf("%q is lowered to %d instructions, and %d blocks in the last code; want %d and %d", c.s, n, b, size, blocks)
		}
		checkLower(t, p)
	}
}

func TestLowerStatements(t *testing.T) {
	checkLowerCases(t, []lowerCase{
		{"fn m(){}", "code 0 1; 0:; r0 = num 0; back r0"},
		{"fn m(a){}", "code 1 2; 0:; r1 = num 0; back r1"},
		{"fn m(a,b,c){}", "code 3 4; 0:; r3 = num 0; back r3"},
		{"fn m(){let x=1;}", "code 0 3; 0:; r1 = num 1; r0 = copy r1; r2 = num 0; back r2"},
		{"fn m(a){let b=a;}", "code 1 3; 0:; r1 = copy r0; r2 = num 0; back r2"},
		{"fn m(){let b=255;let a=b;}", "code 0 4; 0:; r2 = num 255; r0 = copy r2; r1 = copy r0; r3 = num 0; back r3"},
		{"fn m(a){a=a;}", "code 1 2; 0:; r0 = copy r0; r1 = num 0; back r1"},
		{"fn m(a,b){b=a+b;}", "code 2 4; 0:; r2 = add r0 r1; r1 = copy r2; r3 = num 0; back r3"},
		{"fn m(a){say a;say 5;}", "code 1 3; 0:; say r0; r1 = num 5; say r1; r2 = num 0; back r2"},
		{"fn m(a,b){put b,a;put 1,2;}", "code 2 5; 0:; put r1 r0; r2 = num 1; r3 = num 2; put r2 r3; r4 = num 0; back r4"},
		{"fn m(a){put a&1,a&2;}", "code 1 8; 0:; r1 = num 0; if r0 1 2; 1:; r2 = num 1; r3 = not r2; r1 = not r3; go 2; 2:; r4 = num 0; if r0 3 4; 3:; r5 = num 2; r6 = not r5; r4 = not r6; go 4; 4:; put r1 r4; r7 = num 0; back r7"},
		{"fn m(){let x=1&2;}", "code 0 6; 0:; r1 = num 1; r2 = num 0; if r1 1 2; 1:; r3 = num 2; r4 = not r3; r2 = not r4; go 2; 2:; r0 = copy r2; r5 = num 0; back r5"},
	})
}

func TestLowerBlocksOfStatements(t *testing.T) {
	checkLowerCases(t, []lowerCase{
		{"fn m(a){if a{}}", "code 1 2; 0:; if r0 1 2; 1:; go 3; 2:; go 3; 3:; r1 = num 0; back r1"},
		{"fn m(a){if a{}else{say a;}}", "code 1 2; 0:; if r0 1 2; 1:; go 3; 2:; say r0; go 3; 3:; r1 = num 0; back r1"},
		{"fn m(a){if a{say 1;}else{say 2;}say 3;}", "code 1 5; 0:; if r0 1 2; 1:; r1 = num 1; say r1; go 3; 2:; r2 = num 2; say r2; go 3; 3:; r3 = num 3; say r3; r4 = num 0; back r4"},
		{"fn m(a){if !a{say 1;}}", "code 1 4; 0:; r1 = not r0; if r1 1 2; 1:; r2 = num 1; say r2; go 3; 2:; go 3; 3:; r3 = num 0; back r3"},
		{"fn m(a){if a&a{say a;}}", "code 1 4; 0:; r1 = num 0; if r0 1 2; 1:; r2 = not r0; r1 = not r2; go 2; 2:; if r1 3 4; 3:; say r0; go 5; 4:; go 5; 5:; r3 = num 0; back r3"},
		{"fn m(a){if a{if a{}}else{loop a{}}}", "code 1 2; 0:; if r0 1 2; 1:; if r0 4 5; 2:; go 7; 3:; r1 = num 0; back r1; 4:; go 6; 5:; go 6; 6:; go 3; 7:; if r0 8 9; 8:; go 7; 9:; go 3"},
		{"fn m(a){if a{}if a{}}", "code 1 2; 0:; if r0 1 2; 1:; go 3; 2:; go 3; 3:; if r0 4 5; 4:; go 6; 5:; go 6; 6:; r1 = num 0; back r1"},
		{"fn m(a){loop a{}}", "code 1 2; 0:; go 1; 1:; if r0 2 3; 2:; go 1; 3:; r1 = num 0; back r1"},
		{"fn m(a){loop a{a=0;}}", "code 1 3; 0:; go 1; 1:; if r0 2 3; 2:; r1 = num 0; r0 = copy r1; go 1; 3:; r2 = num 0; back r2"},
		{"fn m(a){say 1;loop a-1{say a;}say 2;}", "code 1 6; 0:; r1 = num 1; say r1; go 1; 1:; r2 = num 1; r3 = sub r0 r2; if r3 2 3; 2:; say r0; go 1; 3:; r4 = num 2; say r4; r5 = num 0; back r5"},
		{"fn m(a){loop a&1{say a;}}", "code 1 5; 0:; go 1; 1:; r1 = num 0; if r0 4 5; 2:; say r0; go 1; 3:; r4 = num 0; back r4; 4:; r2 = num 1; r3 = not r2; r1 = not r3; go 5; 5:; if r1 2 3"},
		{"fn m(a){loop a{loop a{}if a{}}}", "code 1 2; 0:; go 1; 1:; if r0 2 3; 2:; go 4; 3:; r1 = num 0; back r1; 4:; if r0 5 6; 5:; go 4; 6:; if r0 7 8; 7:; go 9; 8:; go 9; 9:; go 1"},
		{"fn m(a){loop a{if a{loop a{if a{}}}}}", "code 1 2; 0:; go 1; 1:; if r0 2 3; 2:; if r0 4 5; 3:; r1 = num 0; back r1; 4:; go 7; 5:; go 6; 6:; go 1; 7:; if r0 8 9; 8:; if r0 10 11; 9:; go 6; 10:; go 12; 11:; go 12; 12:; go 7"},
	})
}

func TestLowerBacks(t *testing.T) {
	checkLowerCases(t, []lowerCase{
		{"fn m(a){back a+1;}", "code 1 4; 0:; r1 = num 1; r2 = add r0 r1; back r2; 1:; r3 = num 0; back r3"},
		{"fn m(a){back a;}", "code 1 2; 0:; back r0; 1:; r1 = num 0; back r1"},
		{"fn m(){back 1;say 2;back 3;}", "code 0 4; 0:; r0 = num 1; back r0; 1:; r1 = num 2; say r1; r2 = num 3; back r2; 2:; r3 = num 0; back r3"},
		{"fn m(a){back a;back a;}", "code 1 2; 0:; back r0; 1:; back r0; 2:; r1 = num 0; back r1"},
		{"fn m(){back 1;let a=2;say a;}", "code 0 4; 0:; r1 = num 1; back r1; 1:; r2 = num 2; r0 = copy r2; say r0; r3 = num 0; back r3"},
		{"fn m(a){back a;if a{}loop a{}}", "code 1 2; 0:; back r0; 1:; if r0 2 3; 2:; go 4; 3:; go 4; 4:; go 5; 5:; if r0 6 7; 6:; go 5; 7:; r1 = num 0; back r1"},
		{"fn m(a){if a{back 1;}else{back 2;}}", "code 1 4; 0:; if r0 1 2; 1:; r1 = num 1; back r1; 2:; r2 = num 2; back r2; 3:; r3 = num 0; back r3; 4:; go 3; 5:; go 3"},
		{"fn m(a){if a{back a;say a;}say 1;}", "code 1 3; 0:; if r0 1 2; 1:; back r0; 2:; go 3; 3:; r1 = num 1; say r1; r2 = num 0; back r2; 4:; say r0; go 3"},
		{"fn m(a){if a{}else{back a;say a;}}", "code 1 2; 0:; if r0 1 2; 1:; go 3; 2:; back r0; 3:; r1 = num 0; back r1; 4:; say r0; go 3"},
		{"fn m(a){loop a{back a;}}", "code 1 2; 0:; go 1; 1:; if r0 2 3; 2:; back r0; 3:; r1 = num 0; back r1; 4:; go 1"},
		{"fn m(a){loop a{if a{back a;}back 1;say 2;}}", "code 1 4; 0:; go 1; 1:; if r0 2 3; 2:; if r0 4 5; 3:; r3 = num 0; back r3; 4:; back r0; 5:; go 6; 6:; r1 = num 1; back r1; 7:; go 6; 8:; r2 = num 2; say r2; go 1"},
		{"fn m(a,b){back a&b;}", "code 2 5; 0:; r2 = num 0; if r0 1 2; 1:; r3 = not r1; r2 = not r3; go 2; 2:; back r2; 3:; r4 = num 0; back r4"},
	})
}

func TestLowerVariables(t *testing.T) {
	checkLowerCases(t, []lowerCase{
		// a name in Body, in Else, and one outside or of a Param
		{"fn m(a){if a{let b=a;}else{let b=1;}}", "code 1 5; 0:; if r0 1 2; 1:; r1 = copy r0; go 3; 2:; r3 = num 1; r2 = copy r3; go 3; 3:; r4 = num 0; back r4"},
		{"fn m(a){let b=a;if b{let b=1;b=2;}else{let b=3;}b=4;}", "code 1 9; 0:; r1 = copy r0; if r1 1 2; 1:; r4 = num 1; r2 = copy r4; r5 = num 2; r2 = copy r5; go 3; 2:; r6 = num 3; r3 = copy r6; go 3; 3:; r7 = num 4; r1 = copy r7; r8 = num 0; back r8"},
		{"fn m(a){if a{let a=a;a=a;}a=a;}", "code 1 3; 0:; if r0 1 2; 1:; r1 = copy r0; r1 = copy r1; go 3; 2:; go 3; 3:; r0 = copy r0; r2 = num 0; back r2"},
		{"fn m(a){if a{a=a;let a=a;say a;}say a;}", "code 1 3; 0:; if r0 1 2; 1:; r0 = copy r0; r1 = copy r0; say r1; go 3; 2:; go 3; 3:; say r0; r2 = num 0; back r2"},
		{"fn m(a){loop a{let a=a;loop a{let a=a;say a;}say a;}say a;}", "code 1 4; 0:; go 1; 1:; if r0 2 3; 2:; r1 = copy r0; go 4; 3:; say r0; r3 = num 0; back r3; 4:; if r1 5 6; 5:; r2 = copy r1; say r2; go 4; 6:; say r1; go 1"},
		{"fn m(){if 0{let a=1;}let a=2;if a{let b=a;}let b=a;}", "code 0 8; 0:; r4 = num 0; if r4 1 2; 1:; r5 = num 1; r0 = copy r5; go 3; 2:; go 3; 3:; r6 = num 2; r1 = copy r6; if r1 4 5; 4:; r2 = copy r1; go 6; 5:; go 6; 6:; r3 = copy r1; r7 = num 0; back r7"},
		{"fn m(b,a){let d=b;let c=a;}", "code 2 5; 0:; r2 = copy r0; r3 = copy r1; r4 = num 0; back r4"},
		// each function has its own
		{"fn f(a){let b=a;}fn m(b){let a=b;let c=a;}", "code 1 3; 0:; r1 = copy r0; r2 = num 0; back r2; code 1 4; 0:; r1 = copy r0; r2 = copy r1; r3 = num 0; back r3"},
	})
}

func TestLowerCalls(t *testing.T) {
	checkLowerCases(t, []lowerCase{
		{"fn f(){}fn m(){back f();}", "code 0 1; 0:; r0 = num 0; back r0; code 0 2; 0:; r0 = call 0; back r0; 1:; r1 = num 0; back r1"},
		{"fn f(){}fn m(){do f();say f();}", "code 0 1; 0:; r0 = num 0; back r0; code 0 3; 0:; r0 = call 0; r1 = call 0; say r1; r2 = num 0; back r2"},
		{"fn f(a,b,c){back c;}fn m(a){back f(1,a,2);}", "code 3 4; 0:; back r2; 1:; r3 = num 0; back r3; code 1 5; 0:; r1 = num 1; r2 = num 2; r3 = call 0 r1 r0 r2; back r3; 1:; r4 = num 0; back r4"},
		{"fn f(a){back a;}fn g(a){back a;}fn m(a){do g(f(g(a)));}", "code 1 2; 0:; back r0; 1:; r1 = num 0; back r1; code 1 2; 0:; back r0; 1:; r1 = num 0; back r1; code 1 5; 0:; r1 = call 1 r0; r2 = call 0 r1; r3 = call 1 r2; r4 = num 0; back r4"},
		{"fn g(){}fn f(a){back g();}fn h(a,b){back f(b)+g();}fn m(){do h(1,2);}", "code 0 1; 0:; r0 = num 0; back r0; code 1 3; 0:; r1 = call 0; back r1; 1:; r2 = num 0; back r2; code 2 6; 0:; r2 = call 1 r1; r3 = call 0; r4 = add r2 r3; back r4; 1:; r5 = num 0; back r5; code 0 4; 0:; r0 = num 1; r1 = num 2; r2 = call 2 r0 r1; r3 = num 0; back r3"},
		// both Kids of an op are calls, or ExprAnds
		{"fn f(a){back a;}fn m(a){back f(a)-f(1);}", "code 1 2; 0:; back r0; 1:; r1 = num 0; back r1; code 1 6; 0:; r1 = call 0 r0; r2 = num 1; r3 = call 0 r2; r4 = sub r1 r3; back r4; 1:; r5 = num 0; back r5"},
		{"fn f(a,b){}fn m(a){do f(a&1,2);}", "code 2 3; 0:; r2 = num 0; back r2; code 1 7; 0:; r1 = num 0; if r0 1 2; 1:; r2 = num 1; r3 = not r2; r1 = not r3; go 2; 2:; r4 = num 2; r5 = call 0 r1 r4; r6 = num 0; back r6"},
		{"fn f(a){}fn m(a){back f(a)&f(1);}", "code 1 2; 0:; r1 = num 0; back r1; code 1 7; 0:; r1 = call 0 r0; r2 = num 0; if r1 1 2; 1:; r3 = num 1; r4 = call 0 r3; r5 = not r4; r2 = not r5; go 2; 2:; back r2; 3:; r6 = num 0; back r6"},
		{"fn f(a,b){}fn m(a){do f(a&a,a&a);}", "code 2 3; 0:; r2 = num 0; back r2; code 1 7; 0:; r1 = num 0; if r0 1 2; 1:; r2 = not r0; r1 = not r2; go 2; 2:; r3 = num 0; if r0 3 4; 3:; r4 = not r0; r3 = not r4; go 4; 4:; r5 = call 0 r1 r3; r6 = num 0; back r6"},
		{"fn a(a){}fn b(a){let b=a(a);}", "code 1 2; 0:; r1 = num 0; back r1; code 1 4; 0:; r2 = call 0 r0; r1 = copy r2; r3 = num 0; back r3"},
	})
}

// wantLowerExpr is the text of the code that LowerExpr should return; the empty string if it should return false.
func wantLowerExpr(e impl.Expr, names []string) string {
	_, texts, _ := wantUnit(program(fn("q", names, back(e))))
	return strings.Join(texts, "")
}

// checkLowerExpr compares LowerExpr of an expression, valid or not, with what it should return, and runs the code beside the
// expression. It reports whether there is one.
func checkLowerExpr(t *testing.T, e impl.Expr, names []string) bool {
	t.Helper()
	before, given := plainExpr(e), slices.Clone(names)
	want := wantLowerExpr(e, names)
	c, ok := impl.LowerExpr(e, names)
	u := impl.Unit{Codes: []impl.Code{c}}
	if text := impl.UnitText(u); text != want || ok != (want != "") || !equalUnits(u, impl.Unit{Codes: append(unitOf(want).Codes, impl.Code{})[:1]}) {
		t.Fatalf("LowerExpr(%v, %q) = %v, %v; want %q", e, names, c, ok, want)
	}
	if sharesWith([]any{e, names}, c) || !equalExprs(e, before) || !slices.Equal(names, given) {
		t.Fatalf("the code of %v, %q shares memory with it, or it is written to: %v", before, given, c)
	}
	if !ok {
		return false
	}
	for _, values := range [][]int{{0, 0, 0}, {1, 2, 3}, {255, 16, 7}, {0, 1, 0}, {7, 0, 9}} {
		in := values[:len(names)]
		o, ran := impl.RunUnit(u, in, 60000)
		if value, end := impl.EvalExpr(e, names, in); !ran || end >= 0 && (o.Value != value || o.End != end || len(o.Said) > 0) {
			t.Fatalf("the code of %v with %v tells %v, %v; want %d, %d", e, in, o, ran, value, end)
		}
	}
	return true
}

func TestLowerExprs(t *testing.T) {
	abc := []string{"a", "b", "c"}
	for _, c := range []struct {
		s     string
		names []string
		want  string
	}{
		{"7", nil, "code 0 2; 0:; r0 = num 7; back r0; 1:; r1 = num 0; back r1"},
		{"0", abc, "code 3 5; 0:; r3 = num 0; back r3; 1:; r4 = num 0; back r4"},
		{"a", abc[:1], "code 1 2; 0:; back r0; 1:; r1 = num 0; back r1"},
		{"b", abc[:2], "code 2 3; 0:; back r1; 1:; r2 = num 0; back r2"},
		{"c", abc, "code 3 4; 0:; back r2; 1:; r3 = num 0; back r3"},
		{"!a", abc[:1], "code 1 3; 0:; r1 = not r0; back r1; 1:; r2 = num 0; back r2"},
		{"@b", abc[:2], "code 2 4; 0:; r2 = at r1; back r2; 1:; r3 = num 0; back r3"},
		{"!@!1", nil, "code 0 5; 0:; r0 = num 1; r1 = not r0; r2 = at r1; r3 = not r2; back r3; 1:; r4 = num 0; back r4"},
		{"a+b", abc[:2], "code 2 4; 0:; r2 = add r0 r1; back r2; 1:; r3 = num 0; back r3"},
		{"b-a", abc[:2], "code 2 4; 0:; r2 = sub r1 r0; back r2; 1:; r3 = num 0; back r3"},
		{"a*a", abc[:1], "code 1 3; 0:; r1 = mul r0 r0; back r1; 1:; r2 = num 0; back r2"},
		{"a/2", abc[:1], "code 1 4; 0:; r1 = num 2; r2 = div r0 r1; back r2; 1:; r3 = num 0; back r3"},
		{"2%a", abc[:1], "code 1 4; 0:; r1 = num 2; r2 = rem r1 r0; back r2; 1:; r3 = num 0; back r3"},
		{"1<2", nil, "code 0 4; 0:; r0 = num 1; r1 = num 2; r2 = less r0 r1; back r2; 1:; r3 = num 0; back r3"},
		{"a=b", abc[:2], "code 2 4; 0:; r2 = same r0 r1; back r2; 1:; r3 = num 0; back r3"},
		{"(1+2)*(3-4)", nil, "code 0 8; 0:; r0 = num 1; r1 = num 2; r2 = add r0 r1; r3 = num 3; r4 = num 4; r5 = sub r3 r4; r6 = mul r2 r5; back r6; 1:; r7 = num 0; back r7"},
		{"1-2-3", nil, "code 0 6; 0:; r0 = num 1; r1 = num 2; r2 = sub r0 r1; r3 = num 3; r4 = sub r2 r3; back r4; 1:; r5 = num 0; back r5"},
		{"a&b", abc[:2], "code 2 5; 0:; r2 = num 0; if r0 1 2; 1:; r3 = not r1; r2 = not r3; go 2; 2:; back r2; 3:; r4 = num 0; back r4"},
		{"1&2", nil, "code 0 5; 0:; r0 = num 1; r1 = num 0; if r0 1 2; 1:; r2 = num 2; r3 = not r2; r1 = not r3; go 2; 2:; back r1; 3:; r4 = num 0; back r4"},
		{"a&b&c", abc, "code 3 8; 0:; r3 = num 0; if r0 1 2; 1:; r4 = not r1; r3 = not r4; go 2; 2:; r5 = num 0; if r3 3 4; 3:; r6 = not r2; r5 = not r6; go 4; 4:; back r5; 5:; r7 = num 0; back r7"},
		{"a&(b&c)", abc, "code 3 8; 0:; r3 = num 0; if r0 1 2; 1:; r4 = num 0; if r1 3 4; 2:; back r3; 3:; r5 = not r2; r4 = not r5; go 4; 4:; r6 = not r4; r3 = not r6; go 2; 5:; r7 = num 0; back r7"},
		{"(a&b)+(b&a)", abc[:2], "code 2 8; 0:; r2 = num 0; if r0 1 2; 1:; r3 = not r1; r2 = not r3; go 2; 2:; r4 = num 0; if r1 3 4; 3:; r5 = not r0; r4 = not r5; go 4; 4:; r6 = add r2 r4; back r6; 5:; r7 = num 0; back r7"},
		{"(a&b)&(b&a)", abc[:2], "code 2 9; 0:; r2 = num 0; if r0 1 2; 1:; r3 = not r1; r2 = not r3; go 2; 2:; r4 = num 0; if r2 3 4; 3:; r5 = num 0; if r1 5 6; 4:; back r4; 5:; r6 = not r0; r5 = not r6; go 6; 6:; r7 = not r5; r4 = not r7; go 4; 7:; r8 = num 0; back r8"},
		{"!(a&1)", abc[:1], "code 1 6; 0:; r1 = num 0; if r0 1 2; 1:; r2 = num 1; r3 = not r2; r1 = not r3; go 2; 2:; r4 = not r1; back r4; 3:; r5 = num 0; back r5"},
		{"a-(b&1)", abc[:2], "code 2 7; 0:; r2 = num 0; if r1 1 2; 1:; r3 = num 1; r4 = not r3; r2 = not r4; go 2; 2:; r5 = sub r0 r2; back r5; 3:; r6 = num 0; back r6"},
		// names that stand in another order, or are none of the expression
		{"a-b", []string{"b", "a"}, "code 2 4; 0:; r2 = sub r1 r0; back r2; 1:; r3 = num 0; back r3"},
		{"1", []string{"q"}, "code 1 3; 0:; r1 = num 1; back r1; 1:; r2 = num 0; back r2"},
		{"m", []string{"m"}, "code 1 2; 0:; back r0; 1:; r1 = num 0; back r1"},
		{"abcd", []string{"a", "abcd", "f"}, "code 3 4; 0:; back r1; 1:; r3 = num 0; back r3"},
	} {
		e, _ := wantRead(c.s)
		code, ok := impl.LowerExpr(e, c.names)
		if text := impl.UnitText(impl.Unit{Codes: []impl.Code{code}}); !ok || text != linesOfText(c.want) {
			t.Errorf("LowerExpr(%q, %q) = %q, %v; want %q", c.s, c.names, text, ok, linesOfText(c.want))
		}
		checkLowerExpr(t, e, c.names)
	}
}

func TestLowerExprOfWrongNames(t *testing.T) {
	a, b := variable("a"), variable("b")
	for _, c := range []struct {
		e     impl.Expr
		names []string
	}{
		{num(1), []string{""}}, {num(1), []string{"A"}}, {num(1), []string{"a1"}}, {num(1), []string{"abcde"}}, {num(1), []string{"if"}}, {num(1), []string{"a", "b", "say"}}, {num(1), []string{"1"}}, {a, []string{"a", " b"}},
		{num(1), []string{"a", "a"}}, {a, []string{"a", "a"}}, {b, []string{"a", "b", "a"}}, {a, []string{"b", "a", "a"}}, {a, []string{"a", "b", "b"}},
		{num(1), []string{"a", "b", "c", "d"}}, {a, []string{"a", "b", "c", "d"}}, {num(1), make([]string, 9)}, {num(1), make([]string, 1)},
		{a, nil}, {a, []string{"b"}}, {plus(a, b), []string{"a"}}, {not(not(b)), []string{"a", "c"}}, {op(10, a, b), []string{"b", "bb"}}, {a, []string{"aa"}}, {op(12, a), nil},
		{call("f"), nil}, {call("m"), nil}, {call("a", a), []string{"a"}}, {plus(a, call("f", a)), []string{"a"}}, {op(10, num(0), call("f")), nil}, {call("q"), []string{"q"}}, {call("f", call("f")), nil},
		{impl.Expr{}, nil}, {impl.Expr{Op: 14}, nil}, {num(256), nil}, {num(-1), nil}, {variable(""), nil}, {variable(""), []string{""}}, {variable("if"), []string{"if"}}, {op(3, a), []string{"a"}}, {op(11, a, a), []string{"a"}}, {op(10), nil}, {impl.Expr{Op: 1, N: 1, Name: "a"}, []string{"a"}}, {impl.Expr{Op: 2, N: 1, Name: "a"}, []string{"a"}}, {op(1, a), []string{"a"}},
		{nots(11, 6), nil}, {withParts(31), nil}, {full(6), nil}, {plus(a, op(16, a, a)), []string{"a"}},
	} {
		if checkLowerExpr(t, c.e, c.names) {
			t.Errorf("the expression %v with %q is lowered", c.e.Op, c.names)
		}
	}
	for _, e := range []impl.Expr{endless(1, 11), endless(3, 11), endless(2, 13), plus(a, endless(1, 12))} {
		if c, ok := impl.LowerExpr(e, []string{"a"}); ok || c.Params+c.Regs+len(c.Blocks) > 0 {
			t.Error("an endless expression is lowered")
		}
	}
	for _, e := range []impl.Expr{nots(11, 5), withParts(30), nots(12, 5)} {
		if !checkLowerExpr(t, e, []string{"a", "b", "c"}) {
			t.Errorf("%v is not lowered", e)
		}
	}
}

func TestVarReg(t *testing.T) {
	p := read(t, "fn f(a,b,c){let d=a;if d{let a=b;let e=a;}else{let e=c;let d=e;}loop a{let e=1;a=0;}back 1;let g=2;}fn m(b){let a=b;loop a{let b=a;a=f(1,2,b);}}")
	for _, c := range []struct {
		k    int
		name string
		want int
	}{
		{0, "a", 0}, {0, "b", 1}, {0, "c", 2}, {0, "d", 3}, {0, "e", 5}, {0, "g", 9}, {0, "f", -1}, {0, "m", -1}, {0, "h", -1}, {0, "", -1}, {0, "A", -1}, {0, "let", -1}, {0, "va", -1}, {0, "abcde", -1}, {0, "a ", -1},
		{1, "b", 0}, {1, "a", 1}, {1, "c", -1}, {1, "f", -1}, {1, "m", -1}, {1, "", -1}, {1, "0", -1},
		{-1, "a", -1}, {-1, "", -1}, {2, "a", -1}, {2, "b", -1}, {math.MaxInt, "a", -1}, {math.MinInt, "a", -1},
	} {
		if got := impl.VarReg(p, c.k, c.name); got != c.want {
			t.Errorf("VarReg(%d, %q) = %d; want %d", c.k, c.name, got, c.want)
		}
	}
	for k, want := range map[int]int{-2: -1, -1: -1, 0: 8, 1: 4, 2: -1, 3: -1, math.MaxInt: -1} {
		if got := impl.LowerBlocks(p, k); got != want {
			t.Errorf("LowerBlocks(%d) = %d; want %d", k, got, want)
		}
	}
	checkLower(t, p)
	for s, want := range map[string]int{"fn m(a){let b=1;}": 1, "fn m(a,b){}": 1, "fn m(b){}": 0, "fn m(){if 0{let b=1;}let b=2;}": 0, "fn m(a){}": -1, "fn m(){say b;}": -1, "fn b(){}": -1, "fn m(b,b){}": -1, "fn m(b){do b();}": -1, "fn m(){let b=b;}": -1, "fn m(b){let b=1;}": -1, "fn m(){loop 1{loop 1{loop 1{let a=1;let b=a;}}}}": 1} {
		if got := impl.VarReg(read(t, s), 0, "b"); got != want {
			t.Errorf("VarReg of %q = %d; want %d", s, got, want)
		}
	}
}

// allKinds has all Ops of expressions and of statements, but for the calls of earlier functions.
const allKinds = `fn f ( a , b , c ) { let d = a + b * 2 - c ; if a = b & ( b < c & ! c ) { put a % 5 , d / 3 ; } else { loop d { d = d / 2 ; say @ ( d % 16 ) ; } } CALLS back d + a ; }`

func TestLowerAllKinds(t *testing.T) {
	text := ""
	for n, s := range []string{"", "do f ( a , 1 , b ) ; say f ( 1 , b & c , f ( a , b , c ) ) ;", "do g ( a , 1 , f ( a , b , c ) ) ; say g ( b , 3 , 4 ) & f ( a , 2 , a ) ;", "do h ( f ( 1 , 2 , 3 ) , g ( 4 , 5 , 6 ) , a ) ;"} {
		text += strings.NewReplacer("CALLS", s, "fn f", "fn "+[]string{"f", "g", "h", "m"}[n]).Replace(allKinds) + " "
		p := read(t, text)
		if !checkLower(t, p) || len(p.Fns) != n+1 {
			t.Fatalf("%q is not lowered", text)
		}
		u, _ := impl.LowerProgram(p)
		for _, in := range impl.InputsFor(p) {
			o, _ := impl.RunProgram(p, in, 4000)
			if v, _ := impl.RunUnit(u, in, 60000); o.End == 3 || v.End == 3 || !equalOutcomes(o, v) {
				t.Errorf("the run of %q with %v tells %v, that of its unit %v", text, in, o, v)
			}
		}
		seen := map[string]bool{}
		for _, word := range strings.Fields(impl.UnitText(u)) {
			seen[word] = true
		}
		for _, word := range strings.Fields("num copy add sub mul div rem less same not at put say go if back") {
			if !seen[word] {
				t.Errorf("%q is lowered without %s", text, word)
			}
		}
		if seen["call"] != (n > 0) {
			t.Errorf("calls of %q are lowered: %v", text, seen["call"])
		}
	}
}

// lowerForms are statements of each kind; those that may have others in them have these ones.
func lowerForms(body, other []impl.Stmt) []impl.Stmt {
	a, b := variable("a"), variable("b")
	and := op(10, a, b)
	return []impl.Stmt{
		let("c", a), let("a", and), set("a", minus(a, num(1))), set("b", op(10, and, num(3))), say(and), say(b), put(a, b), put(and, op(10, b, a)), do(call("f", a)), do(call("f", and)), back(a), back(op(10, num(1), and)),
		when(a, body, other), when(and, other, body), when(call("f", a), nil, body), when(a, body, nil), when(not(and), nil, nil),
		loop(a, append(block(set("a", op(6, a, num(2)))), body...)...), loop(op(10, a, op(9, b, num(1))), append(block(set("a", num(0))), body...)...), loop(a), loop(op(12, a), append(block(put(a, num(0))), other...)...),
	}
}

// TestLowerForms has all pairs of kinds of statements, one behind the other, and in each other.
func TestLowerForms(t *testing.T) {
	f := fn("f", params("x"), say(variable("x")), back(plus(variable("x"), num(1))))
	lowered := 0
	add := func(body ...impl.Stmt) {
		if checkLower(t, program(f, fn("m", params("a", "b"), body...))) {
			lowered++
		}
	}
	single := lowerForms(block(say(num(7))), nil)
	for i, s := range single {
		add(s)
		for k, r := range single {
			add(s, r)
			nested := lowerForms(block(s, r), block(r))
			add(nested[(i+k)%len(nested)], nested[12+(i*7+k)%9])
			if (i+k)%3 == 0 {
				add(lowerForms(block(nested[12+k%9]), block(nested[12+i%5], s))[12+(i+k)/3%9])
			}
		}
	}
	if lowered < 900 {
		t.Errorf("%d programs are lowered", lowered)
	}
	for _, s := range smallStmts() {
		for _, r := range smallStmts()[:12] {
			checkLower(t, program(fn("m", params("a", "b"), s, r)))
		}
	}
}

func TestLowerSmallExprs(t *testing.T) {
	rnd := rand.New(rand.NewSource(91))
	count := map[bool]int{}
	for _, e := range slices.Concat(trees(2), shapes()) {
		for _, names := range [][]string{nil, {"a"}, {"b", "a"}, {"c", "b", "a"}} {
			count[checkLowerExpr(t, e, names)]++
		}
	}
	m := maker{rnd: rnd, blocks: [][]string{{"a", "b", "c"}}, calm: true}
	for range 2500 {
		e := m.expr(1 + rnd.Intn(6))
		count[checkLowerExpr(t, e, []string{"a", "b", "c"})]++
		if rnd.Intn(10) == 0 {
			for _, other := range changes(e) {
				count[checkLowerExpr(t, other, []string{"c", "a", "b"}[:1+rnd.Intn(3)])]++
			}
		}
	}
	if count[true] < 2000 || count[false] < 1000 {
		t.Errorf("expressions are lowered: %v", count)
	}
}

func TestLowerRandomPrograms(t *testing.T) {
	count := map[bool]int{}
	clear(endsOfMeanings)
	for seed, m := range []maker{{calm: true}, {}, {calm: true, wrong: 200}, {wrong: 20}} {
		m.rnd = rand.New(rand.NewSource(92 + int64(seed)))
		for range 250 {
			count[checkLower(t, m.program())]++
		}
	}
	if count[true] < 500 || count[false] < 150 {
		t.Errorf("random programs are lowered: %v", count)
	}
	for end, least := range map[int]int{0: 250, 1: 50, 2: 50, 3: 50} {
		if endsOfMeanings[end] < least {
			t.Errorf("%d programs have the end %d", endsOfMeanings[end], end)
		}
	}
}

// numbersIn is an expression that has so many parts, each of which takes an instruction and a register.
func numbersIn(n int) impl.Expr {
	switch n {
	case 1:
		return num(7)
	case 2:
		return not(num(9))
	}
	return plus(numbersIn((n-1)/2), numbersIn(n-1-(n-1)/2))
}

// summed are statements that say expressions which have so many parts in all.
func summed(parts int) []impl.Stmt {
	var list []impl.Stmt
	for ; parts > 30; parts -= 30 {
		list = append(list, say(numbersIn(30)))
	}
	return append(list, say(numbersIn(parts)))
}

// regsOf is a function that takes so many registers.
func regsOf(s string, regs int) impl.Fn { return fn(s, nil, summed(regs-1)...) }

func TestLowerMostRegs(t *testing.T) {
	small := fn("f", nil)
	for regs, want := range map[int]bool{299: true, 300: true, 301: false, 302: false, 330: false} {
		three := params("a", "b", "c")
		for i, p := range []impl.Program{
			program(regsOf("m", regs)),
			program(regsOf("g", regs), small),
			program(small, regsOf("m", regs)),
			program(small, regsOf("g", regs), fn("m", nil)),
			program(regsOf("f", 300), regsOf("m", regs)),
			program(fn("m", three, summed(regs-4)...)),
			program(fn("m", three, append(summed(regs-6), let("d", variable("a")), loop(num(0), let("d", variable("b"))))...)), // two variables, of which both have a register, and a number
			program(fn("m", nil, append(summed(regs-3), back(num(1)), say(num(2)))...)),
		} {
			if i == 6 {
				p.Fns[0].Body[len(p.Fns[0].Body)-1].Args[0] = variable("c")
			}
			u, ok := impl.LowerProgram(p)
			if ok != want || checkLower(t, p) != want {
				t.Errorf("the program %d of %d registers is lowered: %v", i, regs, ok)
			}
			most := 0
			for _, c := range u.Codes {
				most = max(most, c.Regs)
			}
			if want && i != 4 && most != regs || impl.LowerSize(p) >= 0 != want || impl.LowerBlocks(p, 0) >= 0 != want {
				t.Errorf("the program %d is lowered to %d registers; want %d", i, most, regs)
			}
			if reg := impl.VarReg(p, 0, "d"); i == 6 && (reg == 3) != want {
				t.Errorf("VarReg of a program of %d registers is %d", regs, reg)
			}
		}
	}
}

// blocksOf are statements that take so many blocks, of a code that has one more.
func blocksOf(n int) []impl.Stmt {
	a := variable("a")
	var list []impl.Stmt
	for ; n >= 7; n -= 7 {
		list = append(list, []impl.Stmt{when(op(10, op(10, a, a), a), nil, nil), loop(op(10, a, op(10, a, a))), when(a, block(say(op(10, a, a))), block(say(op(10, a, a))))}[len(list)%3])
	}
	for ; n >= 2; n -= 2 {
		list = append(list, say(op(10, a, a)))
	}
	if n == 1 {
		list = append(list, back(a))
	}
	return list
}

func TestLowerMostBlocks(t *testing.T) {
	a := params("a")
	for blocks, want := range map[int]bool{158: true, 159: true, 160: true, 161: false, 162: false, 170: false} {
		list := blocksOf(blocks - 1)
		wide := append(block(loop(variable("a"), list[:10]...)), blocksOf(blocks-1-10*7-3)...)
		for i, p := range []impl.Program{
			program(fn("m", a, list...)),
			program(fn("f", a, list...), fn("m", nil)),
			program(fn("f", nil), fn("m", a, list...)),
			program(fn("f", nil), fn("g", a, list...), fn("m", nil, back(num(1)))),
			program(fn("m", a, wide...)),
		} {
			ok := checkLower(t, p)
			if ok != want {
				t.Errorf("the program %d of %d blocks is lowered: %v", i, blocks, ok)
			}
			most := -1
			for k := range p.Fns {
				most = max(most, impl.LowerBlocks(p, k))
			}
			if want && most != blocks || !want && most != -1 {
				t.Errorf("the program %d is lowered to %d blocks; want %d", i, most, blocks)
			}
		}
	}
}

// TestLowerMostIns has programs of 26 statements, of which 25 take 31 instructions each, and each function one more.
func TestLowerMostIns(t *testing.T) {
	for size, want := range map[int]bool{798: true, 799: true, 800: true, 801: false, 802: false, 809: false} {
		for fns := 3; fns <= 4; fns++ {
			last := size - 25*31 - fns
			list := append(summed(25*30), say(numbersIn(last-1)))
			var p impl.Program
			for k := range fns {
				share := list[k*len(list)/fns : (k+1)*len(list)/fns]
				p.Fns = append(p.Fns, fn([]string{"f", "g", "h", "m"}[k], nil, share...))
			}
			for turn := range fns {
				got := -1
				if checkLower(t, p) {
					got = impl.LowerSize(p)
				}
				if want && got != size || !want && got != -1 {
					t.Errorf("the program of %d instructions is lowered to %d, with the last function ahead by %d", size, got, turn)
				}
				p.Fns = append(p.Fns[1:len(p.Fns):len(p.Fns)], p.Fns[0])
			}
		}
	}
	great := impl.Stmt{Op: 4, Args: []impl.Expr{numbersIn(30), numbersIn(30)}}
	p := mainOf(slices.Repeat(block(great), 40)...)
	if checkLower(t, p) || impl.CheckProgram(p) != 0 {
		t.Error("the greatest program is lowered")
	}
	if !checkLower(t, mainOf(lets(40)...)) || !checkLower(t, program(fn("m", params("a", "b", "c"), lets(40)...))) {
		t.Error("as many variables as there can be are not lowered")
	}
	for _, n := range []int{26, 27, 28, 36} {
		list, index := withVars(n)
		for i, p := range list {
			u, ok := impl.LowerProgram(p)
			if !checkLower(t, p) || !ok || u.Codes[index[i]].Regs <= n {
				t.Errorf("%d variables are lowered to %v", n, u)
			}
		}
	}
}

func TestLowerProgramsThatAreWrong(t *testing.T) {
	for code, s := range map[int]string{2: "fn f(){}fn f(){}", 3: "fn m(){say a;}", 4: "fn m(){do m();}", 5: "fn f(a){}fn m(){do f();}"} {
		if p := read(t, s); checkLower(t, p) || impl.CheckProgram(p) != code {
			t.Errorf("%q is lowered", s)
		}
	}
	for _, s := range []string{"fn m(a,a){}", "fn m(a){let a=1;}", "fn m(){let a=a;}", "fn m(){a=1;}", "fn m(){if 1{let a=1;}say a;}", "fn f(){do g();}fn g(){}", "fn m(a){do a();}", "fn f(){}fn m(){back 1;do f(1);}", "fn f(a,b){}fn m(){do f(1,f(2));}", "fn m(){back 1;back a;}", "fn f(a){a=b;}fn m(){}"} {
		if checkLower(t, read(t, s)) {
			t.Errorf("%q is lowered", s)
		}
	}
	for i, p := range wrongPrograms() {
		u, ok := impl.LowerProgram(p)
		if ok || len(u.Codes) > 0 || impl.LowerSize(p) != -1 {
			t.Errorf("the program %d, which is not valid, is lowered", i)
		}
		for k := -1; k < 3; k++ {
			if impl.LowerBlocks(p, k) != -1 || impl.VarReg(p, k, "a") != -1 || impl.VarReg(p, k, "") != -1 {
				t.Errorf("the program %d, which is not valid, has blocks or registers", i)
			}
		}
	}
	rnd := rand.New(rand.NewSource(96))
	count := map[bool]int{}
	for _, s := range []string{"fn f(a){back a+1;}fn m(b){let a=f(b);if a{let b=a;say b;}else{put 1,a;}loop b{b=b-1;do f(b);}}", "fn m(a){let b=a&1;if a{back b;}}"} {
		for _, p := range otherPrograms(read(t, s)) {
			if rnd.Intn(3) == 0 {
				count[checkLower(t, p)]++
			}
		}
	}
	if count[true] < 20 || count[false] < 300 {
		t.Errorf("changed programs are lowered: %v", count)
	}
}

func TestLowerResultsAreTheirOwn(t *testing.T) {
	m := maker{rnd: rand.New(rand.NewSource(97))}
	list := []impl.Program{mainOf(), read(t, "fn f(a,b){back b;}fn m(a){if a&1{say f(a,2);}else{put a,a;}loop a{let b=f(a,a);do f(b,1);}}")}
	for range 100 {
		list = append(list, m.program())
	}
	for _, p := range list {
		before := plainProgram(p)
		u, _ := impl.LowerProgram(p)
		again, _ := impl.LowerProgram(p)
		want := plainUnit(u)
		if sharesWith(p, u, again) {
			t.Fatalf("the units of %v share memory: %v", p, u)
		}
		spoilUnit(u)
		if third, _ := impl.LowerProgram(p); !equalUnits(again, want) || !equalUnits(third, want) || !equalPrograms(p, before) {
			t.Fatalf("the units of %v depend on each other", p)
		}
	}
	e, names := plus(variable("a"), op(10, variable("b"), num(3))), []string{"b", "a"}
	c, _ := impl.LowerExpr(e, names)
	again, _ := impl.LowerExpr(e, names)
	want := plainCode(again)
	if sharesWith([]any{e, names}, c, again) {
		t.Error("codes of an expression share memory")
	}
	spoilUnit(impl.Unit{Codes: []impl.Code{c}})
	if third, _ := impl.LowerExpr(e, names); !equalUnits(impl.Unit{Codes: []impl.Code{again, third}}, impl.Unit{Codes: []impl.Code{want, want}}) {
		t.Error("codes of an expression depend on each other")
	}
}

// TestLowerSharedMemory has programs of which lists are the same memory, and have more memory behind them, which is not to be
// read or written.
func TestLowerSharedMemory(t *testing.T) {
	names := []string{"a", "b", "a", "if"}
	exprs := []impl.Expr{variable("a"), op(10, variable("b"), variable("a")), variable("zz"), {Op: 79}}
	exprs[1].Kids = []impl.Expr{variable("b"), variable("a"), variable("zz")}[:2]
	inner := []impl.Stmt{{Op: 1, Name: "a", Args: exprs[:1]}, {Op: 3, Args: exprs[1:2]}, {Op: 3, Args: exprs[2:3]}, {Op: 78}}
	outer := []impl.Stmt{{Op: 5, Args: exprs[:1], Body: inner[:2], Else: inner[:2]}, {Op: 7, Args: exprs[1:2]}, {Op: 4, Args: exprs[:2]}, {Op: 77}}
	fns := []impl.Fn{{Name: "f", Params: names[:2], Body: outer[:3]}, {Name: "g", Params: names[:2], Body: outer[:2]}, {Name: "m", Params: names[1:3], Body: outer[:3]}, {Name: "m"}}
	told := func() string { return fmt.Sprint(names, exprs, exprs[1].Kids[:3], inner, outer, fns) }
	before := told()
	for n := range 5 {
		if ok := checkLower(t, impl.Program{Fns: fns[:n]}); ok != (n > 0 && n < 4) {
			t.Errorf("the first %d functions are lowered: %v", n, ok)
		}
	}
	for n := range 5 {
		for i, e := range exprs {
			if ok := checkLowerExpr(t, e, names[:n]); ok != (i < 2 && n > i && n < 3) {
				t.Errorf("the expression %d is lowered with %q: %v", i, names[:n], ok)
			}
		}
	}
	if after := told(); after != before {
		t.Errorf("what was given became %s", after)
	}
}
