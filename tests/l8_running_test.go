package tests

import (
	"fmt"
	"maps"
	"math"
	"math/rand"
	"slices"
	"strconv"
	"strings"
	"testing"

	"loop.example/wholeway/impl"
)

// The runs of the document's chapter 8, told a second time and in another way than the program tells them: the lines of the
// texts of codes are done as they stand, registers are found by their words, and what is called is done by recursion.
type lineRun struct {
	codes []lineCode
	steps int
	end   int // how the run ends, -1 as long as it goes on
	said  []int
	cells [16]int
	trace []int
}

// lineCode is the lines of a code, with the places at which blocks begin, and the blocks that lead to each, by their words.
type lineCode struct {
	lines  []codeLine
	begins map[string]int
	preds  map[string][]string
}

// codeLine is a line of the text of a code: the register that it sets, if any, its word, and the words behind that.
type codeLine struct {
	to, word string
	rest     []string
}

// insSigns are the signs of ops between two, by the words of instructions.
var insSigns = map[string]string{"add": "+", "sub": "-", "mul": "*", "div": "/", "rem": "%", "less": "<", "same": "="}

// linesOf are the lines of the text of a valid code behind the first one.
func linesOf(c impl.Code) lineCode {
	made := lineCode{begins: map[string]int{}, preds: map[string][]string{}}
	block := ""
	for i, s := range strings.Split(strings.TrimSpace(wantCodeText(c)), "\n")[1:] {
		to, rest, sets := strings.Cut(s, " = ")
		if !sets {
			to, rest = "", s
		}
		words := strings.Fields(rest)
		made.lines = append(made.lines, codeLine{to, words[0], words[1:]})
		switch words[0] {
		case "go":
			made.preds[words[1]] = append(made.preds[words[1]], block)
		case "if":
			for _, next := range slices.Compact(slices.Clone(words[2:])) {
				made.preds[next] = append(made.preds[next], block)
			}
		}
		if number, begins := strings.CutSuffix(s, ":"); begins {
			block = number
			made.begins[number] = i + 1
		}
	}
	return made
}

// code does a code to which numbers are handed, and tells with which number it ends.
func (r *lineRun) code(k int, in []int) int {
	regs := map[string]int{}
	for i, n := range in {
		regs["r"+strconv.Itoa(i)] = n
	}
	block := "0"
	at := r.come(k, regs, "", block)
	for r.end < 0 {
		if r.steps == 0 {
			r.end = 3
			break
		}
		r.steps--
		x := r.codes[k].lines[at]
		at++
		next := ""
		switch x.word {
		case "back":
			return regs[x.rest[0]]
		case "go":
			next = x.rest[0]
		case "if":
			next = x.rest[1]
			if regs[x.rest[0]] == 0 {
				next = x.rest[2]
			}
		default:
			if v := r.value(x, regs); x.to != "" {
				regs[x.to] = v
			}
			continue
		}
		at = r.come(k, regs, block, next)
		block = next
	}
	return 0
}

// come does the phis of a block to which one comes from another one, and tells which line is behind them.
func (r *lineRun) come(k int, regs map[string]int, from string, to string) int {
	c := r.codes[k]
	if k == len(r.codes)-1 {
		r.trace = append(r.trace, numbersOf([]string{to})...)
	}
	at, place := c.begins[to], slices.Index(c.preds[to], from)
	if c.lines[at].word != "phi" {
		return at
	}
	before := maps.Clone(regs)
	for ; c.lines[at].word == "phi"; at++ {
		regs[c.lines[at].to] = before[c.lines[at].rest[place]]
	}
	return at
}

// value does what a line tells, and returns what the register gets that it sets.
func (r *lineRun) value(x codeLine, regs map[string]int) int {
	var args []int
	for _, w := range x.rest {
		n := regs[w]
		if w[0] != 'r' {
			n = numbersOf([]string{w})[0]
		}
		args = append(args, n)
	}
	if (x.word == "at" || x.word == "put") && args[0] > 15 {
		r.end = 2
		return 0
	}
	switch x.word {
	case "num", "copy":
		return args[0]
	case "not":
		v, _ := between("=", args[0], 0)
		return v
	case "at":
		return r.cells[args[0]]
	case "put":
		r.cells[args[0]] = args[1]
		return 0
	case "say":
		r.said = append(r.said, args[0])
		return 0
	case "call":
		return r.code(args[0], args[1:])
	}
	v, fine := between(insSigns[x.word], args[0], args[1])
	if !fine {
		r.end = 1
		return 0
	}
	return v
}

// wantUnitRun is what RunUnit should return, and the run.
func wantUnitRun(u impl.Unit, in []int, steps int) (impl.Outcome, *lineRun, bool) {
	if wantInsCount(u) < 0 || steps < 0 || steps > 60000 || len(in) != u.Codes[len(u.Codes)-1].Params || slices.ContainsFunc(in, func(n int) bool { return n < 0 || n > 255 }) {
		return impl.Outcome{}, &lineRun{}, false
	}
	r := &lineRun{steps: steps, end: -1}
	for _, c := range u.Codes {
		r.codes = append(r.codes, linesOf(c))
	}
	o := impl.Outcome{Value: r.code(len(u.Codes)-1, in)}
	if r.end > 0 {
		o.Value = 0
	}
	o.Said, o.End, o.Cells = r.said, max(r.end, 0), r.cells[:]
	return o, r, true
}

// stepsFor are the numbers of steps that are tried with a run that needs so many, or with one that does not end, for which it
// is -1.
func stepsFor(need int) []int {
	steps := []int{math.MinInt, -60000, -1, 0, 1, 2, 31, 60000, 60001, 1 << 32, math.MaxInt}
	if need < 0 {
		return steps
	}
	for n := max(need-2, 0); n <= need+2; n++ {
		steps = append(steps, n)
	}
	for n := range min(need, 30) {
		steps = append(steps, n)
	}
	return steps
}

// checkUnitRuns compares what the program tells of the runs of a unit, valid or not, to which these numbers are handed, with
// what it should tell, and checks promise 8 on it. It returns how the run ends with the most steps, and -1 if there is none.
func checkUnitRuns(t *testing.T, u impl.Unit, in []int) int {
	t.Helper()
	before, handed := plainUnit(u), slices.Clone(in)
	most, run, fine := wantUnitRun(u, in, 60000)
	need := 60000 - run.steps
	if !fine || most.End == 3 {
		need = -1
	}
	if got := impl.StepsOf(u, in); got != need {
		t.Fatalf("StepsOf(%v, %v) = %d; want %d", u, in, got, need)
	}
	for _, steps := range stepsFor(need) {
		want, wantRun, wantOk := most, run, fine
		if steps != 60000 {
			want, wantRun, wantOk = wantUnitRun(u, in, steps)
		}
		got, ok := impl.RunUnit(u, in, steps)
		if ok != wantOk || !equalOutcomes(got, want) {
			t.Fatalf("RunUnit(%v, %v, %d) = %v, %v; want %v, %v", u, in, steps, got, ok, want, wantOk)
		}
		trace := impl.TraceOf(u, in, steps)
		if !slices.Equal(trace, wantRun.trace) {
			t.Fatalf("TraceOf(%v, %v, %d) = %v; want %v", u, in, steps, trace, wantRun.trace)
		}
		if sharesWith([]any{u, in}, got, trace) {
			t.Fatalf("the run of %v with %v and %d steps shares memory with it", u, in, steps)
		}
		if ok && need >= 0 {
			checkMoreSteps(t, steps >= need, got, most, trace, run.trace)
		}
	}
	if impl.SameRuns(u, u, in, 60000) != fine {
		t.Fatalf("the runs of %v with %v are not the same", u, in)
	}
	if !equalUnits(u, before) || !slices.Equal(in, handed) {
		t.Fatalf("%v, %v became %v, %v", before, handed, u, in)
	}
	if !fine {
		return -1
	}
	return most.End
}

// checkMoreSteps checks promise 8 on the outcome and the trace of a run, and on those with the most steps, with which it ends:
// they are the same if the steps are enough; else it is out of steps, and what has been done up to then is the same.
func checkMoreSteps(t *testing.T, enough bool, got, most impl.Outcome, trace, whole []int) {
	t.Helper()
	if enough && (!equalOutcomes(got, most) || !slices.Equal(trace, whole) || got.End == 3) {
		t.Fatalf("the run is %v by %v; with more steps it is %v by %v", got, trace, most, whole)
	}
	said, come := len(got.Said), len(trace)
	if !enough && (got.End != 3 || got.Value != 0 || said > len(most.Said) || !slices.Equal(got.Said, most.Said[:said]) || come > len(whole) || !slices.Equal(trace, whole[:come])) {
		t.Fatalf("the run is %v by %v; with more steps it is %v by %v", got, trace, most, whole)
	}
}

// checkNumbers compares NumbersFor of a unit, valid or not, with what it should return, and checks the runs to which these
// numbers are handed. It counts how they end.
func checkNumbers(t *testing.T, u impl.Unit, ends map[int]int) {
	t.Helper()
	lists := impl.NumbersFor(u)
	if wantInsCount(u) < 0 {
		if len(lists) > 0 {
			t.Fatalf("NumbersFor(%v) = %v", u, lists)
		}
		ends[checkUnitRuns(t, u, nil)]++
		return
	}
	n := u.Codes[len(u.Codes)-1].Params
	if want := [][]int{{0, 0, 0}, {1, 2, 3}, {255, 16, 7}}; len(lists) != 3 || !slices.Equal(lists[0], want[0][:n]) || !slices.Equal(lists[1], want[1][:n]) || !slices.Equal(lists[2], want[2][:n]) {
		t.Fatalf("NumbersFor(%v) = %v", u, lists)
	}
	for i, in := range lists {
		if i == 0 || n > 0 {
			ends[checkUnitRuns(t, u, in)]++
		}
	}
}

// unitCase is a run of a unit that is told by hand: its outcome, the blocks to which it comes, and its steps, which are -1 if it
// does not end.
type unitCase struct {
	s     string
	in    []int
	want  string
	trace string
	steps int
}

func intWords(list []int) string { return strings.Trim(fmt.Sprint(list), "[]") }

func checkUnitCases(t *testing.T, list []unitCase) {
	t.Helper()
	for _, c := range list {
		u := unitOf(c.s)
		o, ok := impl.RunUnit(u, c.in, 60000)
		text, trace, steps := impl.OutcomeText(o), intWords(impl.TraceOf(u, c.in, 60000)), impl.StepsOf(u, c.in)
		if !ok || text != c.want || trace != c.trace || steps != c.steps || len(o.Cells) != 16 {
			t.Errorf("the run of %q with %v is %q, %v, by %.99q, with %d steps; want %q by %.99q with %d", c.s, c.in, text, ok, trace, steps, c.want, c.trace, c.steps)
		}
		checkUnitRuns(t, u, c.in)
	}
}

func TestUnitRunsOfInstructions(t *testing.T) {
	checkUnitCases(t, []unitCase{
		{"code 0 1; 0:; back r0", nil, "back 0", "0", 1},
		{"code 1 1; 0:; back r0", []int{9}, "back 9", "0", 1},
		{"code 3 3; 0:; back r2", []int{1, 2, 3}, "back 3", "0", 1},
		{"code 3 4; 0:; back r3", []int{1, 2, 3}, "back 0", "0", 1},
		{"code 1 3; 0:; r1 = num 1; r2 = add r0 r1; back r2", []int{7}, "back 8", "0", 3},
		{"code 0 1; 0:; r0 = num 255; back r0", nil, "back 255", "0", 2},
		{"code 0 1; 0:; r0 = num 7; r0 = num 0; back r0", nil, "back 0", "0", 3},
		{"code 1 2; 0:; r1 = copy r0; r0 = num 3; back r1", []int{5}, "back 5", "0", 3},
		{"code 2 3; 0:; r2 = copy r1; back r2", []int{5, 6}, "back 6", "0", 2},
		{"code 2 3; 0:; r2 = add r0 r1; back r2", []int{200, 100}, "back 44", "0", 2},
		{"code 1 1; 0:; r0 = add r0 r0; r0 = add r0 r0; back r0", []int{3}, "back 12", "0", 3},
		{"code 2 2; 0:; r0 = sub r0 r1; back r0", []int{3, 5}, "back 254", "0", 2},
		{"code 2 2; 0:; r1 = sub r1 r0; back r1", []int{3, 5}, "back 2", "0", 2},
		{"code 2 3; 0:; r2 = mul r0 r1; back r2", []int{16, 17}, "back 16", "0", 2},
		{"code 2 3; 0:; r2 = div r0 r1; back r2", []int{255, 16}, "back 15", "0", 2},
		{"code 2 3; 0:; r2 = div r1 r0; back r2", []int{255, 16}, "back 0", "0", 2},
		{"code 2 3; 0:; r2 = rem r0 r1; back r2", []int{254, 16}, "back 14", "0", 2},
		{"code 2 3; 0:; r2 = rem r1 r0; back r2", []int{254, 16}, "back 16", "0", 2},
		{"code 2 3; 0:; r2 = less r0 r1; back r2", []int{4, 5}, "back 1", "0", 2},
		{"code 2 3; 0:; r2 = less r1 r0; back r2", []int{4, 5}, "back 0", "0", 2},
		{"code 2 3; 0:; r2 = less r0 r1; back r2", []int{5, 5}, "back 0", "0", 2},
		{"code 2 3; 0:; r2 = same r0 r1; back r2", []int{5, 5}, "back 1", "0", 2},
		{"code 2 3; 0:; r2 = same r0 r1; back r2", []int{5, 4}, "back 0", "0", 2},
		{"code 1 2; 0:; r1 = not r0; back r1", []int{0}, "back 1", "0", 2},
		{"code 1 2; 0:; r1 = not r0; back r1", []int{1}, "back 0", "0", 2},
		{"code 1 1; 0:; r0 = not r0; r0 = not r0; back r0", []int{255}, "back 1", "0", 3},
		{"code 2 3; 0:; put r0 r1; r2 = at r0; say r2; back r0", []int{15, 9}, "9 back 15 15=9", "0", 4},
		{"code 2 3; 0:; put r0 r1; r2 = at r1; say r2; back r0", []int{0, 9}, "0 back 0 0=9", "0", 4},
		{"code 1 1; 0:; put r0 r0; r0 = at r0; back r0", []int{7}, "back 7 7=7", "0", 3},
		{"code 2 2; 0:; put r0 r1; put r1 r0; put r0 r0; back r1", []int{3, 4}, "back 4 3=3 4=3", "0", 4},
		{"code 2 2; 0:; put r0 r1; r1 = num 0; put r0 r1; back r0", []int{3, 4}, "back 3", "0", 4},
		{"code 1 1; 0:; say r0; say r0; back r0", []int{4}, "4 4 back 4", "0", 3},
		{"code 3 3; 0:; say r2; say r0; say r1; back r0", []int{1, 2, 3}, "3 1 2 back 1", "0", 4},
		{"code 2 2; 0:; say r0; r0 = copy r1; say r0; back r0", []int{1, 2}, "1 2 back 2", "0", 4},
	})
}

func TestUnitRunsOfJumps(t *testing.T) {
	ways := "code 1 2; 0:; if r0 1 2; 1:; r1 = num 1; back r1; 2:; r1 = num 2; back r1"
	turned := "code 1 2; 0:; if r0 2 1; 1:; r1 = num 1; back r1; 2:; r1 = num 2; back r1"
	turns := "code 1 2; 0:; r1 = num 1; go 1; 1:; if r0 2 3; 2:; say r0; r0 = sub r0 r1; go 1; 3:; back r1"
	checkUnitCases(t, []unitCase{
		{"code 1 1; 0:; go 2; 1:; say r0; back r0; 2:; go 1", []int{3}, "3 back 3", "0 2 1", 4},
		{"code 1 1; 0:; back r0; 1:; say r0; back r0", []int{3}, "back 3", "0", 1},
		{"code 0 1; 0:; go 1; 1:; go 3; 2:; back r0; 3:; go 2", nil, "back 0", "0 1 3 2", 4},
		{ways, []int{0}, "back 2", "0 2", 3}, {ways, []int{1}, "back 1", "0 1", 3}, {ways, []int{255}, "back 1", "0 1", 3},
		{turned, []int{0}, "back 1", "0 1", 3}, {turned, []int{128}, "back 2", "0 2", 3},
		{"code 1 1; 0:; if r0 1 1; 1:; back r0", []int{0}, "back 0", "0 1", 2},
		{"code 1 1; 0:; if r0 1 1; 1:; back r0", []int{7}, "back 7", "0 1", 2},
		{"code 2 2; 0:; if r1 1 2; 1:; back r0; 2:; back r1", []int{7, 0}, "back 0", "0 2", 2},
		{turns, []int{3}, "3 2 1 back 1", "0 1 2 1 2 1 2 1 3", 16}, {turns, []int{0}, "back 1", "0 1 3", 4},
		{"code 1 2; 0:; r1 = num 1; go 1; 1:; r0 = sub r0 r1; if r0 1 2; 2:; back r0", []int{3}, "back 0", "0 1 1 1 2", 9},
		{"code 0 1; 0:; go 1; 1:; go 1", nil, "fuel", "0" + strings.Repeat(" 1", 60000), -1},
		{"code 0 0; 0:; go 1; 1:; go 2; 2:; go 1", nil, "fuel", "0" + strings.Repeat(" 1 2", 30000), -1},
		{"code 1 1; 0:; if r0 1 2; 1:; back r0; 2:; if r0 1 2", []int{0}, "fuel", "0" + strings.Repeat(" 2", 60000), -1},
	})
}

func TestUnitRunsOfPhis(t *testing.T) {
	skip := "code 2 4; 0:; if r0 1 2; 1:; if r0 2 2; 2:; r3 = phi r0 r1; back r3"
	apart := "code 1 5; 0:; r1 = num 10; r2 = num 20; r3 = num 30; if r0 2 1; 1:; go 3; 2:; go 3; 3:; r4 = phi r1 r2; back r4"
	behind := "code 1 3; 0:; r1 = num 1; if r0 2 1; 1:; r2 = phi r0 r1; back r2; 2:; go 1"
	checkUnitCases(t, []unitCase{
		// they are done at once: some use each other's To, or their own
		{"code 2 2; 0:; go 1; 1:; r0 = phi r1; r1 = phi r0; say r0; say r1; back r0", []int{4, 9}, "9 4 back 9", "0 1", 4},
		{"code 3 3; 0:; go 1; 1:; r0 = phi r1; r1 = phi r2; r2 = phi r0; say r0; say r1; say r2; back r0", []int{1, 2, 3}, "2 3 1 back 2", "0 1", 5},
		{"code 3 3; 0:; go 1; 1:; r0 = phi r2; r1 = phi r0; r2 = phi r1; say r0; say r1; say r2; back r0", []int{1, 2, 3}, "3 1 2 back 3", "0 1", 5},
		{"code 3 3; 0:; go 1; 1:; r0 = phi r0; r1 = phi r0; r2 = phi r1; say r0; say r1; say r2; back r2", []int{1, 2, 3}, "1 1 2 back 2", "0 1", 5},
		{"code 1 2; 0:; go 1; 1:; r0 = phi r0; r1 = phi r0; back r1", []int{6}, "back 6", "0 1", 2},
		{"code 2 4; 0:; r2 = num 2; r3 = num 1; go 1; 1:; r0 = phi r1 r1; r1 = phi r0 r0; say r0; r2 = sub r2 r3; if r2 1 2; 2:; back r0", []int{4, 9}, "9 4 back 4", "0 1 1 2", 10},
		{"code 1 4; 0:; go 1; 1:; r1 = phi r0; r2 = phi r0; r3 = phi r0; back r3", []int{6}, "back 6", "0 1", 2},
		{"code 2 2; 0:; go 1; 1:; r1 = phi r0; if r1 2 3; 2:; back r0; 3:; back r1", []int{0, 9}, "back 0", "0 1 3", 3},
		// a block that leads twice to one is one predecessor
		{"code 2 3; 0:; if r0 1 1; 1:; r2 = phi r1; back r2", []int{0, 8}, "back 8", "0 1", 2},
		{"code 2 3; 0:; if r0 1 1; 1:; r2 = phi r1; back r2", []int{1, 8}, "back 8", "0 1", 2},
		{skip, []int{0, 8}, "back 0", "0 2", 2}, {skip, []int{5, 8}, "back 8", "0 1 2", 3},
		// a block that leads to itself
		{"code 1 3; 0:; r2 = num 1; go 1; 1:; r1 = phi r2 r0; say r1; r0 = sub r0 r2; if r0 1 2; 2:; back r1", []int{3}, "1 2 1 back 1", "0 1 1 1 2", 12},
		{"code 1 3; 0:; r1 = num 5; r2 = num 1; go 1; 1:; r1 = phi r1 r1; r0 = phi r0 r0; r1 = add r1 r0; r0 = sub r0 r2; if r0 1 2; 2:; back r1", []int{3}, "back 11", "0 1 1 1 2", 13},
		{"code 1 5; 0:; r1 = num 1; go 1; 1:; r2 = phi r1 r3; r3 = phi r1 r4; r4 = add r2 r3; say r2; r0 = sub r0 r1; if r0 1 2; 2:; back r3", []int{5}, "1 1 2 3 5 back 8", "0 1 1 1 1 1 2", 23},
		// Args are those of the predecessors in ascending order, reached or not
		{apart, []int{0}, "back 10", "0 1 3", 6}, {apart, []int{1}, "back 20", "0 2 3", 6}, {behind, []int{0}, "back 0", "0 1", 3}, {behind, []int{9}, "back 1", "0 2 1", 4},
		{"code 1 4; 0:; r2 = num 5; go 3; 1:; go 3; 2:; if r0 3 3; 3:; r1 = phi r0 r2 r3; back r1", []int{7}, "back 7", "0 3", 3},
		{"code 1 4; 0:; r2 = num 5; go 2; 1:; go 3; 2:; go 3; 3:; r1 = phi r0 r2; back r1", []int{7}, "back 5", "0 2 3", 4},
		{"code 0 3; 0:; go 1; 1:; r0 = phi r2; back r0", nil, "back 0", "0 1", 2},
		{"code 0 2; 0:; r1 = num 3; back r1; 1:; r1 = phi; back r1", nil, "back 3", "0", 2},
	})
	for b := 2; b < 30; b++ { // one of many predecessors
		s := fmt.Sprintf("code 0 30; 0:; r%d = num 77; go %d; 1:; r0 = phi", b, b)
		rest := ""
		for other := 2; other < 30; other++ {
			s += fmt.Sprintf(" r%d", other)
			rest += fmt.Sprintf("; %d:; go 1", other)
		}
		checkUnitCases(t, []unitCase{{s + "; back r0" + rest, nil, "back 77", fmt.Sprintf("0 %d 1", b), 4}})
	}
}

func TestUnitRunsOfRegisters(t *testing.T) {
	checkUnitCases(t, []unitCase{
		{"code 0 300; 0:; say r299; r0 = add r7 r8; back r0", nil, "0 back 0", "0", 3},
		{"code 1 3; 0:; r1 = num 1; go 1; 1:; say r2; r2 = copy r0; r0 = sub r0 r1; if r0 1 2; 2:; back r2", []int{2}, "0 2 back 1", "0 1 1 2", 11},
		{"code 1 2; 0:; say r1; r1 = copy r0; say r1; back r1; code 0 2; 0:; r0 = num 5; r1 = call 0 r0; r1 = call 0 r1; back r1", nil, "0 5 0 5 back 5", "0", 12},
		{"code 0 2; 0:; if r0 1 2; 1:; back r0; 2:; r1 = phi r0; r0 = num 9; r1 = add r1 r0; back r1; code 0 2; 0:; r0 = call 0; r1 = call 0; say r1; back r0", nil, "9 back 9", "0", 12},
		{"code 0 3; 0:; r0 = num 9; r1 = num 9; r2 = num 9; back r0; code 0 3; 0:; r0 = num 1; r1 = num 2; r2 = call 0; say r0; say r1; back r2", nil, "1 2 back 9", "0", 10},
		{"code 1 1; 0:; r0 = add r0 r0; back r0; code 1 2; 0:; r1 = call 0 r0; say r0; back r1", []int{5}, "5 back 10", "0", 5},
		{"code 1 2; 0:; back r1; code 1 2; 0:; r1 = num 7; r0 = call 0 r1; say r1; back r0", []int{5}, "7 back 0", "0", 5},
	})
}

func TestUnitRunsOfCalls(t *testing.T) {
	checkUnitCases(t, []unitCase{
		{"code 0 1; 0:; r0 = num 4; back r0; code 1 2; 0:; r1 = call 0; r0 = add r0 r1; back r0", []int{3}, "back 7", "0", 5},
		{"code 3 3; 0:; say r0; say r1; say r2; back r1; code 3 3; 0:; r0 = call 0 r2 r0 r1; back r0", []int{1, 2, 3}, "3 1 2 back 1", "0", 6},
		{"code 2 2; 0:; say r0; say r1; back r1; code 3 3; 0:; r0 = call 0 r2 r2; back r0", []int{1, 2, 3}, "3 3 back 3", "0", 5},
		{"code 1 1; 0:; say r0; r0 = add r0 r0; back r0; code 1 1; 0:; r0 = call 0 r0; r0 = call 0 r0; say r0; back r0; code 1 1; 0:; r0 = call 1 r0; back r0; code 1 2; 0:; r1 = call 2 r0; r0 = call 0 r1; say r1; back r0", []int{3}, "3 6 12 12 12 back 24", "0", 19},
		{"code 0 1; 0:; r0 = num 1; back r0; code 0 1; 0:; r0 = num 2; back r0; code 0 3; 0:; r1 = call 1; r2 = call 0; say r1; say r2; back r1", nil, "2 1 back 2", "0", 9},
		{"code 1 3; 0:; r1 = num 77; if r0 1 2; 1:; go 3; 2:; go 3; 3:; r2 = phi r0 r1; back r2; code 1 3; 0:; r1 = num 1; go 1; 1:; r0 = phi r0 r2; r2 = sub r0 r1; r0 = call 0 r2; say r0; if r2 1 2; 2:; back r0", []int{2}, "1 77 back 77", "0 1 1 2", 19},
		{"code 1 2; 0:; r1 = num 1; go 1; 1:; r0 = sub r0 r1; if r0 1 2; 2:; back r1; code 1 1; 0:; go 1; 1:; r0 = call 0 r0; go 2; 2:; back r0", []int{3}, "back 1", "0 1 2", 13},
		// cells that a called code has put, and that it finds
		{"code 2 2; 0:; put r0 r1; back r1; code 2 4; 0:; r2 = call 0 r0 r1; r3 = at r0; back r3", []int{3, 7}, "back 7 3=7", "0", 5},
		{"code 1 1; 0:; r0 = at r0; back r0; code 2 3; 0:; put r0 r1; r2 = call 0 r0; back r2", []int{3, 7}, "back 7 3=7", "0", 5},
		{"code 0 3; 0:; r0 = at r1; r2 = num 1; r0 = add r0 r2; put r1 r0; back r0; code 0 2; 0:; r0 = call 0; r1 = call 0; r1 = call 0; say r1; back r0", nil, "3 back 1 0=3", "0", 20},
	})
}

// everyOp has each Op and each Jump, and codes that call others, and ends.
const everyOp = `code 0 3; 0:; r0 = num 2; r1 = at r0; r2 = add r1 r0; put r0 r2; back r2
	code 1 4; 0:; r1 = num 1; go 1; 1:; r2 = phi r0 r3; r3 = sub r2 r1; say r2; if r3 1 2; 2:; r0 = call 0; back r0
	code 2 5; 0:; r2 = rem r0 r1; r3 = less r2 r1; if r3 1 2; 1:; r4 = call 1 r1; go 2; 2:; r3 = phi r0 r4; back r3
	code 3 12; 0:; r3 = copy r0; r4 = mul r3 r1; r5 = div r4 r2; r6 = same r5 r4; r7 = not r6; if r7 1 2
		1:; r8 = call 2 r0 r2; go 2
		2:; r9 = phi r5 r8; r10 = phi r6 r7; put r10 r9; r11 = at r10; say r11; back r11`

// TestUnitRunsEnd has runs that end in each way, in the main code and in called ones.
func TestUnitRunsEnd(t *testing.T) {
	var list []unitCase
	for _, op := range []string{"div", "rem"} {
		own := "code 2 3; 0:; say r0; r2 = " + op + " r0 r1; say r2; back r2"
		called := "code 2 3; 0:; say r1; r2 = " + op + " r0 r1; back r2; code 2 2; 0:; put r1 r0; go 1; 1:; r0 = call 0 r0 r1; say r0; back r0"
		deeper := "code 1 2; 0:; r1 = " + op + " r0 r0; back r1; code 1 2; 0:; say r0; r1 = call 0 r0; say r0; back r1; code 1 2; 0:; r1 = call 1 r0; say r1; back r1"
		result := map[string]string{"div": "3", "rem": "1"}[op]
		list = append(list, unitCase{own, []int{7, 0}, "7 divide", "0", 2}, unitCase{own, []int{0, 0}, "0 divide", "0", 2}, unitCase{own, []int{7, 2}, "7 " + result + " back " + result, "0", 4},
			unitCase{called, []int{7, 0}, "0 divide 0=7", "0 1", 5}, unitCase{called, []int{7, 2}, "2 " + result + " back " + result + " 2=7", "0 1", 8}, unitCase{deeper, []int{0}, "0 divide", "0", 4})
	}
	for _, row := range []string{"r1 = at r0", "put r0 r1"} {
		own := "code 1 2; 0:; put r1 r0; say r0; go 1; 1:; " + row + "; say r0; back r0"
		called := "code 1 2; 0:; say r0; " + row + "; back r0; code 1 2; 0:; r1 = call 0 r0; say r1; back r1"
		deeper := "code 1 2; 0:; " + row + "; back r1; code 1 2; 0:; say r0; r1 = call 0 r0; say r0; back r1; code 1 2; 0:; r1 = call 1 r0; say r0; back r0"
		for _, n := range []int{16, 17, 128, 255} {
			said := strconv.Itoa(n)
			list = append(list, unitCase{own, []int{n}, said + " cell 0=" + said, "0 1", 4}, unitCase{called, []int{n}, said + " cell", "0", 3}, unitCase{deeper, []int{n}, said + " cell", "0", 4})
		}
		list = append(list, unitCase{own, []int{15}, "15 15 back 15 0=15", "0 1", 6}, unitCase{called, []int{15}, "15 15 back 15", "0", 6}, unitCase{deeper, []int{15}, "15 15 15 back 15", "0", 9})
	}
	list = append(list,
		unitCase{"code 0 1; 0:; say r0; go 1; 1:; go 1", nil, "0 fuel", "0" + strings.Repeat(" 1", 59999), -1},
		unitCase{"code 0 1; 0:; go 1; 1:; go 1; code 0 1; 0:; say r0; go 1; 1:; r0 = call 0; back r0", nil, "0 fuel", "0 1", -1},
		unitCase{"code 0 1; 0:; go 1; 1:; go 1; code 0 1; 0:; r0 = num 3; put r0 r0; r0 = call 0; back r0; code 0 1; 0:; r0 = call 1; say r0; back r0", nil, "fuel 3=3", "0", -1},
		unitCase{everyOp, []int{0, 0, 0}, "divide", "0", 3}, unitCase{everyOp, []int{1, 2, 3}, "3 2 1 2 back 2 1=2 2=2", "0 1 2", 36}, unitCase{everyOp, []int{255, 16, 7}, "7 6 5 4 3 2 1 2 back 2 1=2 2=2", "0 1 2", 48}, unitCase{everyOp, []int{1, 1, 1}, "1 back 1 1=1", "0 2", 10},
	)
	checkUnitCases(t, list)
}

// TestMoreStepsChangeNothing has the outcomes and the traces of runs with 0 steps, with 1 and so on.
func TestMoreStepsChangeNothing(t *testing.T) {
	for _, c := range []struct {
		s    string
		in   []int
		want []string
	}{
		{"code 0 1; 0:; back r0", nil, []string{"fuel by 0", "back 0 by 0", "back 0 by 0"}},
		{"code 1 1; 0:; say r0; say r0; back r0", []int{3}, []string{"fuel by 0", "3 fuel by 0", "3 3 fuel by 0", "3 3 back 3 by 0", "3 3 back 3 by 0"}},
		{"code 2 2; 0:; say r0; r0 = div r0 r1; back r0", []int{3, 0}, []string{"fuel by 0", "3 fuel by 0", "3 divide by 0", "3 divide by 0"}},
		{"code 1 1; 0:; say r0; put r0 r0; back r0", []int{16}, []string{"fuel by 0", "16 fuel by 0", "16 cell by 0", "16 cell by 0"}},
		{"code 0 1; 0:; go 1; 1:; say r0; go 1", nil, []string{"fuel by 0", "fuel by 0 1", "0 fuel by 0 1", "0 fuel by 0 1 1", "0 0 fuel by 0 1 1", "0 0 fuel by 0 1 1 1"}},
		{"code 0 1; 0:; r0 = num 4; put r0 r0; back r0; code 0 1; 0:; go 1; 1:; r0 = call 0; say r0; if r0 2 2; 2:; back r0", nil, []string{"fuel by 0", "fuel by 0 1", "fuel by 0 1", "fuel by 0 1", "fuel 4=4 by 0 1", "fuel 4=4 by 0 1", "4 fuel 4=4 by 0 1", "4 fuel 4=4 by 0 1 2", "4 back 4 4=4 by 0 1 2", "4 back 4 4=4 by 0 1 2"}},
		{"code 1 2; 0:; go 1; 1:; r1 = phi r0; r0 = phi r1; say r1; back r0", []int{5}, []string{"fuel by 0", "fuel by 0 1", "5 fuel by 0 1", "5 back 0 by 0 1", "5 back 0 by 0 1"}},
		{"code 0 1; 0:; back r0; code 0 1; 0:; r0 = call 0; back r0", nil, []string{"fuel by 0", "fuel by 0", "fuel by 0", "back 0 by 0", "back 0 by 0"}},
		{"code 1 1; 0:; r0 = rem r0 r0; back r0; code 1 1; 0:; r0 = call 0 r0; back r0", []int{0}, []string{"fuel by 0", "fuel by 0", "divide by 0", "divide by 0"}},
		{"code 1 1; 0:; if r0 1 2; 1:; back r0; 2:; say r0; back r0", []int{0}, []string{"fuel by 0", "fuel by 0 2", "0 fuel by 0 2", "0 back 0 by 0 2", "0 back 0 by 0 2"}},
	} {
		u := unitOf(c.s)
		for steps, want := range c.want {
			o, ok := impl.RunUnit(u, c.in, steps)
			if text := impl.OutcomeText(o) + " by " + intWords(impl.TraceOf(u, c.in, steps)); !ok || text != want || len(o.Cells) != 16 || o.End != 0 && o.Value != 0 {
				t.Errorf("the run of %q with %v and %d steps is %q, %v; want %q", c.s, c.in, steps, text, ok, want)
			}
		}
		checkUnitRuns(t, u, c.in)
	}
	for k, need := range []int{3, 36, 48} {
		u := unitOf(everyOp)
		in := impl.NumbersFor(u)[k]
		most, _ := impl.RunUnit(u, in, 60000)
		for steps := range need + 9 {
			o, ok := impl.RunUnit(u, in, steps)
			if !ok || o.End == 3 != (steps < need) || steps >= need && !equalOutcomes(o, most) {
				t.Errorf("the run of each Op with %v and %d steps is %v, %v", in, steps, o, ok)
			}
		}
		if got := impl.StepsOf(u, in); got != need || most.End == 3 {
			t.Errorf("StepsOf of each Op with %v is %d", in, got)
		}
	}
}

// TestMostSteps has units that take nearly as many steps as there may be, and a few more.
func TestMostSteps(t *testing.T) {
	for extra, want := range map[int]int{395: 59998, 396: 59999, 397: 60000, 398: -1, 399: -1} {
		u := unitOf("code 2 4; 0:; r2 = num 1; " + strings.Repeat("r3 = not r3; ", extra) + "go 1; 1:; r3 = copy r1; go 2; 2:; r3 = sub r3 r2; if r3 2 3; 3:; r0 = sub r0 r2; if r0 1 4; 4:; back r1")
		in := []int{200, 147}
		end := checkUnitRuns(t, u, in)
		if got := impl.StepsOf(u, in); got != want || (end == 0) != (want > 0) {
			t.Errorf("StepsOf with %d more is %d, the end %d; want %d", extra, got, end, want)
		}
		o, ok := impl.RunUnit(u, in, 60000)
		if less, _ := impl.RunUnit(u, in, 59999); !ok || o.End == 3 != (want < 0) || less.End == 3 != (want < 0 || want == 60000) || o.End == 0 && o.Value != 147 {
			t.Errorf("with %d more the runs are %v and %v", extra, o, less)
		}
	}
	if impl.MaxSteps != 60000 {
		t.Error("MaxSteps is another one")
	}
	for _, s := range []string{"code 0 1; 0:; back r0", "code 0 1; 0:; go 1; 1:; go 1", "code 0 1; 0:; r0 = div r0 r0; back r0", everyOp} {
		u := unitOf(s)
		in := impl.NumbersFor(u)[0]
		for _, steps := range []int{math.MinInt, -60000, -1, 0, 1, 59999, 60000, 60001, 120000, 1 << 32, math.MaxInt} {
			o, ok := impl.RunUnit(u, in, steps)
			trace := impl.TraceOf(u, in, steps)
			if fine := steps >= 0 && steps <= 60000; ok != fine || !ok && (o.End != 0 || o.Value != 0 || len(o.Said)+len(o.Cells) > 0) || len(trace) > 0 != fine {
				t.Errorf("RunUnit(%q) with %d steps is %v, %v, by %v", s, steps, o, ok, trace)
			}
		}
	}
}

func TestNumbersHandedToUnits(t *testing.T) {
	for n := range 4 {
		rows := []string{"code 0 1; 0:; back r0", "code 1 2; 0:; say r0; back r1", "code 2 3; 0:; say r0; say r1; back r2", "code 3 4; 0:; say r0; say r1; say r2; back r3"}
		for _, s := range []string{rows[n], rows[(n+1)%4] + ";" + rows[n], rows[3] + ";" + rows[0] + ";" + rows[(n+3)%4] + ";" + rows[n]} {
			u := unitOf(s)
			for length := range 6 {
				in := []int{0, 255, 7, 1, 2}[:length]
				if end := checkUnitRuns(t, u, in); end != 0 && length == n || end != -1 && length != n {
					t.Errorf("with %v, %q ends with %d", in, s, end)
				}
				if o, _ := impl.RunUnit(u, in, 9); length == n && (!slices.Equal(o.Said, in) || o.Value != 0) {
					t.Errorf("with %v, %q is %v", in, s, o)
				}
			}
			for i := range n {
				for _, bad := range []int{math.MinInt, -256, -1, 0, 1, 254, 255, 256, 257, 1 << 32, math.MaxInt} {
					in := []int{3, 3, 3}[:n]
					in[i] = bad
					if end := checkUnitRuns(t, u, in); end != 0 && bad >= 0 && bad < 256 || end != -1 && (bad < 0 || bad > 255) {
						t.Errorf("with %v, %q ends with %d", in, s, end)
					}
				}
			}
			checkNumbers(t, u, map[int]int{})
		}
	}
	u, great := unitOf("code 0 1; 0:; back r0"), make([]int, 1000000)
	if _, ok := impl.RunUnit(u, great, 1); ok || impl.StepsOf(u, great) != -1 || len(impl.TraceOf(u, great, 1)) > 0 || impl.SameRuns(u, u, great, 1) {
		t.Error("a million numbers are handed to a code without Params")
	}
}

// wantDoIns is what DoIns should return.
func wantDoIns(o int, a int, b int) (int, int) {
	if o < 1 || o > 10 || a < 0 || a > 255 || b < 0 || b > 255 {
		return -1, -1
	}
	words := strings.Fields(insRows[o].text)
	r := lineRun{end: -1}
	v := r.value(codeLine{word: words[2], rest: []string{"r0", "r1"}}, map[string]int{"r0": a, "r1": b})
	return v, max(r.end, 0)
}

func TestDoIns(t *testing.T) {
	for _, c := range [][5]int{{1, 7, 0, 7, 0}, {1, 255, 9, 255, 0}, {1, 0, 255, 0, 0}, {2, 7, 0, 7, 0}, {2, 0, 7, 0, 0}, {3, 200, 100, 44, 0}, {4, 3, 5, 254, 0}, {5, 16, 17, 16, 0}, {6, 7, 2, 3, 0}, {6, 2, 7, 0, 0}, {7, 7, 2, 1, 0}, {7, 2, 7, 2, 0}, {8, 4, 5, 1, 0}, {8, 5, 4, 0, 0}, {9, 5, 5, 1, 0}, {9, 5, 4, 0, 0}, {10, 0, 0, 1, 0}, {10, 0, 9, 1, 0}, {10, 9, 0, 0, 0}, {10, 255, 255, 0, 0},
		{6, 7, 0, 0, 1}, {7, 7, 0, 0, 1}, {6, 0, 0, 0, 1}, {7, 0, 0, 0, 1}, {6, 255, 0, 0, 1}, {6, 0, 255, 0, 0}, {7, 0, 255, 0, 0}, {11, 0, 0, -1, -1}, {12, 0, 0, -1, -1}, {13, 0, 0, -1, -1}, {14, 0, 0, -1, -1}, {15, 0, 0, -1, -1}, {0, 0, 0, -1, -1}, {-1, 0, 0, -1, -1}, {6, 256, 0, -1, -1}, {6, -1, 0, -1, -1}, {1, 7, 256, -1, -1}, {2, 7, -1, -1, -1}, {10, 0, 256, -1, -1}} {
		if v, end := impl.DoIns(c[0], c[1], c[2]); v != c[3] || end != c[4] {
			t.Errorf("DoIns(%d, %d, %d) = %d, %d", c[0], c[1], c[2], v, end)
		}
	}
	var list []int
	for n := -2; n < 259; n++ {
		list = append(list, n)
	}
	for _, n := range append(list, math.MinInt, -256, 512, 1<<32, 1<<32+1, math.MaxInt) {
		for _, m := range append(list, math.MinInt, -256, 512, 1<<32, 1<<32+1, math.MaxInt) {
			for o := 1; o <= 10; o++ {
				want, wantEnd := wantDoIns(o, n, m)
				if v, end := impl.DoIns(o, n, m); v != want || end != wantEnd {
					t.Fatalf("DoIns(%d, %d, %d) = %d, %d; want %d, %d", o, n, m, v, end, want, wantEnd)
				}
			}
		}
	}
	for _, o := range []int{math.MinInt, -256, -14, -3, -2, -1, 0, 11, 12, 13, 14, 15, 16, 256, 257, 1 << 32, 1<<32 + 3, math.MaxInt} {
		for _, n := range []int{-1, 0, 1, 255, 256} {
			for _, m := range []int{-1, 0, 1, 255, 256} {
				if v, end := impl.DoIns(o, n, m); v != -1 || end != -1 {
					t.Errorf("DoIns(%d, %d, %d) = %d, %d", o, n, m, v, end)
				}
			}
		}
	}
}

func TestTraces(t *testing.T) {
	deep := "code 0 1; 0:; go 1; 1:; r0 = div r0 r0; back r0; code 0 1; 0:; go 2; 1:; back r0; 2:; r0 = call 0; go 1"
	calls := "code 1 1; 0:; go 3; 1:; back r0; 2:; go 1; 3:; go 2; code 1 2; 0:; go 4; 1:; back r1; 2:; r1 = call 0 r0; go 1; 3:; r1 = call 0 r0; go 2; 4:; go 3"
	for _, c := range []struct {
		s     string
		in    []int
		steps int
		want  []int
	}{
		{deep, nil, 60000, []int{0, 2}}, {deep, nil, 4, []int{0, 2}}, {deep, nil, 3, []int{0, 2}}, {deep, nil, 1, []int{0, 2}}, {deep, nil, 0, []int{0}}, // it ends in the called code
		{calls, []int{5}, 60000, []int{0, 4, 3, 2, 1}}, {calls, []int{5}, 15, []int{0, 4, 3, 2, 1}}, {calls, []int{5}, 14, []int{0, 4, 3, 2, 1}}, {calls, []int{5}, 13, []int{0, 4, 3, 2}}, {calls, []int{5}, 8, []int{0, 4, 3, 2}}, {calls, []int{5}, 7, []int{0, 4, 3}}, {calls, []int{5}, 2, []int{0, 4, 3}}, {calls, []int{5}, 1, []int{0, 4}},
		{"code 0 1; 0:; say r0; say r0; go 1; 1:; say r0; go 1", nil, 2, []int{0}}, {"code 0 1; 0:; say r0; say r0; go 1; 1:; say r0; go 1", nil, 3, []int{0, 1}}, {"code 0 1; 0:; say r0; say r0; go 1; 1:; say r0; go 1", nil, 4, []int{0, 1}}, {"code 0 1; 0:; say r0; say r0; go 1; 1:; say r0; go 1", nil, 5, []int{0, 1, 1}},
		{"code 1 1; 0:; if r0 2 1; 1:; back r0; 2:; if r0 2 1", []int{1}, 0, []int{0}}, {"code 1 1; 0:; if r0 2 1; 1:; back r0; 2:; if r0 2 1", []int{1}, 3, []int{0, 2, 2, 2}}, {"code 1 1; 0:; if r0 2 1; 1:; back r0; 2:; if r0 2 1", []int{0}, 3, []int{0, 1}},
		{deep, []int{1}, 9, nil}, {deep, nil, -1, nil}, {deep, nil, 60001, nil}, {calls, nil, 9, nil}, {calls, []int{256}, 9, nil}, {calls, []int{-1}, 9, nil}, {calls, []int{1, 1}, 9, nil}, {"code 0 0; 0:; back r0", nil, 9, nil}, {"code 0 1; 0:; go 0", nil, 9, nil},
	} {
		u := unitOf(c.s)
		if got := impl.TraceOf(u, c.in, c.steps); !slices.Equal(got, c.want) {
			t.Errorf("TraceOf(%q, %v, %d) = %v; want %v", c.s, c.in, c.steps, got, c.want)
		}
		checkUnitRuns(t, u, c.in)
	}
}

// wantSameRuns is what SameRuns should return.
func wantSameRuns(a impl.Unit, b impl.Unit, in []int, steps int) bool {
	one, _, oneOk := wantUnitRun(a, in, steps)
	other, _, otherOk := wantUnitRun(b, in, 60000)
	return oneOk && otherOk && (one.End == 3 || equalOutcomes(one, other))
}

func TestSameRuns(t *testing.T) {
	base := "code 1 2; 0:; if r0 1 2; 1:; r1 = num 1; back r1; 2:; r1 = num 2; back r1"
	differs := "code 1 2; 0:; if r0 1 2; 1:; r1 = num 1; back r1; 2:; r1 = num 3; back r1"
	longer := "code 0 9; 0:; back r7; code 1 7; 0:; if r0 2 1; 1:; r4 = num 1; r5 = add r4 r4; r6 = call 0; go 3; 2:; r3 = num 1; back r3; 3:; back r5"
	endless := "code 1 2; 0:; if r0 1 2; 1:; r1 = num 1; back r1; 2:; go 2"
	quiet := "code 1 1; 0:; back r0"
	for _, c := range []struct {
		a, b  string
		in    []int
		steps int
		want  bool
	}{
		{base, base, []int{0}, 60000, true}, {base, base, []int{0}, 3, true}, {base, base, []int{1}, 3, true}, {base, base, []int{0}, 2, true}, {base, base, []int{0}, 0, true},
		{base, differs, []int{1}, 60000, true}, {differs, base, []int{1}, 60000, true}, {base, differs, []int{1}, 3, true}, {base, differs, []int{0}, 60000, false}, {differs, base, []int{0}, 60000, false}, {differs, base, []int{0}, 3, false}, {base, differs, []int{0}, 2, true}, {base, differs, []int{0}, 0, true},
		{base, longer, []int{0}, 60000, true}, {longer, base, []int{0}, 60000, true}, {base, longer, []int{0}, 3, true}, {longer, base, []int{0}, 3, true}, {longer, base, []int{0}, 7, true}, {differs, longer, []int{0}, 3, false}, {longer, differs, []int{0}, 6, true}, {longer, differs, []int{0}, 7, false}, {base, longer, []int{9}, 3, true},
		{base, endless, []int{0}, 60000, false}, {endless, base, []int{0}, 60000, true}, {endless, endless, []int{0}, 60000, true}, {endless, endless, []int{0}, 5, true}, {base, endless, []int{0}, 2, true}, {base, endless, []int{1}, 3, true}, {endless, base, []int{1}, 3, true},
		{quiet, "code 1 1; 0:; say r0; back r0", []int{3}, 9, false}, {"code 1 1; 0:; say r0; back r0", quiet, []int{3}, 9, false}, {"code 1 1; 0:; say r0; back r0", quiet, []int{3}, 1, true}, {quiet, "code 1 1; 0:; put r0 r0; back r0", []int{3}, 9, false}, {quiet, "code 1 1; 0:; put r0 r0; back r0", []int{0}, 9, true}, {quiet, "code 1 1; 0:; r0 = div r0 r0; back r0", []int{0}, 9, false}, {quiet, "code 1 2; 0:; back r1", []int{0}, 9, true}, {quiet, "code 1 2; 0:; back r1", []int{1}, 9, false},
		{"code 2 2; 0:; r0 = div r0 r1; back r0", "code 2 2; 0:; put r0 r1; back r0", []int{16, 0}, 9, false}, {"code 2 2; 0:; r0 = div r0 r1; back r0", "code 2 2; 0:; r0 = rem r0 r1; back r0", []int{16, 0}, 9, true}, {"code 2 2; 0:; r0 = at r0; back r0", "code 2 2; 0:; put r0 r1; back r0", []int{16, 0}, 9, true},
		// what is not run
		{quiet, "code 2 2; 0:; back r0", []int{1}, 9, false}, {quiet, "code 2 2; 0:; back r0", []int{1, 2}, 9, false}, {"code 2 2; 0:; back r0", quiet, []int{1}, 9, false}, {"code 2 2; 0:; back r0", quiet, []int{1, 2}, 9, false}, {quiet, "code 2 2; 0:; back r0", []int{1}, 0, false},
		{quiet, "code 1 0; 0:; back r0", []int{1}, 9, false}, {"code 1 0; 0:; back r0", quiet, []int{1}, 9, false}, {"code 1 0; 0:; back r0", "code 1 0; 0:; back r0", []int{1}, 9, false}, {quiet, "code 1 0; 0:; back r0", []int{1}, 0, false}, {endless, "code 1 0; 0:; back r0", []int{0}, 9, false}, {"code 1 1; 0:; go 0", quiet, []int{1}, 0, false},
		{quiet, quiet, []int{256}, 9, false}, {quiet, quiet, []int{-1}, 0, false}, {quiet, quiet, nil, 9, false}, {quiet, quiet, nil, 0, false}, {quiet, quiet, []int{1, 1}, 9, false}, {quiet, quiet, []int{1}, -1, false}, {quiet, quiet, []int{1}, 60001, false}, {endless, endless, []int{0}, math.MinInt, false}, {quiet, quiet, []int{1}, math.MaxInt, false}, {quiet, quiet, []int{1}, 60000, true}, {quiet, quiet, []int{255}, 1, true}, {quiet, quiet, []int{0}, 0, true},
	} {
		a, b := unitOf(c.a), unitOf(c.b)
		if got := impl.SameRuns(a, b, c.in, c.steps); got != c.want || wantSameRuns(a, b, c.in, c.steps) != c.want {
			t.Errorf("SameRuns(%q, %q, %v, %d) is %v", c.a, c.b, c.in, c.steps, got)
		}
	}
}

// TestSameRunsOfChangedUnits has units that differ in one part alone.
func TestSameRunsOfChangedUnits(t *testing.T) {
	rnd := rand.New(rand.NewSource(83))
	count := map[bool]int{}
	u := unitOf(everyOp)
	otherUnits(u, func(v impl.Unit) {
		if rnd.Intn(6) > 0 {
			return
		}
		for _, in := range [][]int{{1, 2, 3}, {1, 1, 1}, {9, 9, 0}, {9, 9}} {
			for _, steps := range []int{0, 9, 10, 35, 36, 60000} {
				want := wantSameRuns(u, v, in, steps)
				if got := impl.SameRuns(u, v, in, steps); got != want {
					t.Fatalf("SameRuns(%v, %v, %v, %d) is %v", u, v, in, steps, got)
				}
				if got, back := impl.SameRuns(v, u, in, steps), wantSameRuns(v, u, in, steps); got != back {
					t.Fatalf("SameRuns(%v, %v, %v, %d) is %v", v, u, in, steps, got)
				}
				count[want]++
			}
		}
	})
	if count[true] < 500 || count[false] < 500 {
		t.Errorf("SameRuns of changed units: %v", count)
	}
}

func TestNumbersFor(t *testing.T) {
	for n, want := range []string{"[[] [] []]", "[[0] [1] [255]]", "[[0 0] [1 2] [255 16]]", "[[0 0 0] [1 2 3] [255 16 7]]"} {
		own := fmt.Sprintf("code %d 4; 0:; back r3", n)
		for k := range 4 {
			other := fmt.Sprintf("code %d 4; 0:; back r3;", k)
			for _, s := range []string{own, other + own, other + other + own, other + own + ";" + other + own} {
				if got := fmt.Sprint(impl.NumbersFor(unitOf(s))); got != want {
					t.Errorf("NumbersFor(%q) = %s; want %s", s, got, want)
				}
			}
			if got := impl.NumbersFor(unitOf(own + ";" + strings.TrimSuffix(other, ";"))); len(got) != 3 || len(got[0]) != k {
				t.Errorf("NumbersFor of a main code with %d Params is %v", k, got)
			}
		}
	}
}

// TestRunsOfSmallUnits has units of few lines, with a loop.
func TestRunsOfSmallUnits(t *testing.T) {
	rows := []string{"r2 = div r0 r1", "r1 = rem r1 r0", "r2 = at r0", "put r1 r0", "say r2", "r0 = call 0 r1 r0", "r1 = sub r1 r0", "r2 = not r1", "r0 = less r0 r1", "r2 = num 3", "r0 = copy r2", "r1 = same r1 r2", "r0 = add r1 r2", "r1 = mul r0 r0"}
	phis := []string{"", "r0 = phi r1 r2; r1 = phi r0 r0;", "r2 = phi r2 r1; r0 = phi r1 r0; r1 = phi r2 r1;", "r1 = phi r0 r1; r1 = phi r1 r2;"}
	jumps := []string{"if r0 1 2", "if r1 2 1", "if r2 1 2", "if r0 2 1"}
	ends := map[int]int{}
	turn := 0
	for _, a := range rows {
		for _, b := range rows {
			turn++
			s := fmt.Sprintf("code 2 3; 0:; r2 = div r1 r0; put r0 r2; back r2; code 2 3; 0:; %s; go 1; 1:; %s %s; say r1; %s; 2:; back r1", a, phis[turn%4], b, jumps[turn/4%4])
			checkNumbers(t, unitOf(s), ends)
			ends[checkUnitRuns(t, unitOf(s), []int{turn % 5, 9})]++
			checkNumbers(t, unitOf(fmt.Sprintf("code 2 3; 0:; %s; r2 = add r0 r1; back r2; code 1 4; 0:; r2 = num 2; %s; if r0 1 2; 1:; %s; go 2; 2:; r3 = phi r2 r0; back r3", strings.Replace(b, "call 0 r1", "less", 1), a, b)), ends)
		}
	}
	for end := range 4 {
		if ends[end] < 50 {
			t.Errorf("%d small units have the end %d", ends[end], end)
		}
	}
}

func TestRunsOfRandomUnits(t *testing.T) {
	rnd := rand.New(rand.NewSource(8))
	ends := map[int]int{}
	for i := range 250 {
		u := someUnit(rnd)
		checkNumbers(t, u, ends)
		in := []int{rnd.Intn(4), rnd.Intn(17), rnd.Intn(256)}
		ends[checkUnitRuns(t, u, in[:u.Codes[len(u.Codes)-1].Params])]++
		if i%25 == 0 {
			otherUnits(u, func(other impl.Unit) {
				if rnd.Intn(30) == 0 {
					checkNumbers(t, other, ends)
				}
			})
		}
	}
	for end, least := range map[int]int{-1: 100, 0: 300, 1: 25, 2: 25, 3: 60} {
		if ends[end] < least {
			t.Errorf("%d random units have the end %d", ends[end], end)
		}
	}
}

// TestRunsOfUnitsThatAreWrong has units that are not valid, of which each function returns what is told for them.
func TestRunsOfUnitsThatAreWrong(t *testing.T) {
	fine := unitOf("code 0 1; 0:; back r0")
	for i, u := range wrongUnits() {
		for _, in := range [][]int{nil, {1}, {1, 2, 3, 4}} {
			o, ok := impl.RunUnit(u, in, 100)
			if ok || o.End != 0 || o.Value != 0 || len(o.Said)+len(o.Cells) > 0 || impl.StepsOf(u, in) != -1 || len(impl.TraceOf(u, in, 100))+len(impl.NumbersFor(u)) > 0 {
				t.Errorf("the unit %d, which is not valid, runs as %v, %v", i, o, ok)
			}
			if impl.SameRuns(u, u, in, 100) || impl.SameRuns(u, fine, in, 100) || impl.SameRuns(fine, u, in, 100) || impl.SameRuns(fine, u, in, 0) {
				t.Errorf("the unit %d, which is not valid, is the same as another one", i)
			}
		}
		if i < 15 {
			checkNumbers(t, u, map[int]int{})
		}
	}
}

// TestRunsOfMostUnits has units that are as great as they may be.
func TestRunsOfMostUnits(t *testing.T) {
	ring, sum := "code 2 300; 0:; go 1", "code 0 300; 0:"
	for b := 1; b < 160; b++ {
		ring += fmt.Sprintf("; %d:; r%d = phi r0; r%d = add r%d r1; say r1; r0 = copy r1; go %d", b, b+1, 140+b, 139+b, (b+1)%160)
	}
	ring = strings.TrimSuffix(strings.Replace(ring, "r2 = phi r0;", "", 1), "go 0") + "back r298"
	for r := range 300 {
		sum += fmt.Sprintf("; r%d = num 1", r)
	}
	for r := 1; r < 300; r++ {
		sum += fmt.Sprintf("; r%d = add r%d r%d", r, r, r-1)
	}
	sum += "; back r299"
	ends := map[int]int{}
	for _, s := range []string{ring, sum, strings.Repeat("code 0 1; 0:; back r0;", 3) + ring, "code 0 1; 0:" + strings.Repeat("; say r0", 800) + "; back r0"} {
		checkNumbers(t, unitOf(s), ends)
	}
	if o, ok := impl.RunUnit(unitOf(sum), nil, 60000); !ok || o.Value != 300%256 || ends[0] != 8 {
		t.Errorf("the sum of 300 registers is %v, %v; the ends are %v", o, ok, ends)
	}
	rows, phis := "code 0 300; 0:", "; go 1; 1:"
	for r := range 300 {
		rows += fmt.Sprintf("; r%d = num %d", r, r%256)
		phis += fmt.Sprintf("; r%d = phi r%d r%d", r, (r+1)%300, (r+1)%300)
	}
	o, ok := impl.RunUnit(unitOf(rows+phis+"; say r0; go 1"), nil, 60000)
	if !ok || o.End != 3 || len(o.Said) != (60000-301+1)/2 {
		t.Fatalf("the run of a ring of phis is %v, %v", o, ok)
	}
	for i, n := range o.Said {
		if n != (i+1)%300%256 {
			t.Fatalf("a ring of phis says %d at %d", n, i)
		}
	}
}

func TestRunResultsAreTheirOwn(t *testing.T) {
	for _, s := range []string{"code 0 1; 0:; back r0", everyOp, "code 3 3; 0:; say r0; say r1; put r2 r1; go 1; 1:; say r2; go 1", "code 2 2; 0:; say r0; go 1; 1:; r0 = div r0 r0; back r0", "code 1 1; 0:; say r0; say r0; back r0; code 1 1; 0:; say r0; r0 = call 0 r0; say r0; back r0"} {
		u := unitOf(s)
		in := []int{4, 5, 6}[:u.Codes[len(u.Codes)-1].Params]
		o, _ := impl.RunUnit(u, in, 50)
		again, _ := impl.RunUnit(u, in, 50)
		trace, other := impl.TraceOf(u, in, 50), impl.TraceOf(u, in, 50)
		lists, others := impl.NumbersFor(u), impl.NumbersFor(u)
		if shareMemory(u, in, o, again, trace, other, lists, others) {
			t.Errorf("results of %q share memory: %v, %v, %v", s, o, trace, lists)
		}
		text, told := impl.OutcomeText(again), fmt.Sprint(other, others, u, in)
		for _, list := range append(lists, o.Said, o.Cells, trace) {
			for i := range list[:cap(list)] {
				list[:cap(list)][i] = 77
			}
		}
		third, _ := impl.RunUnit(u, in, 50)
		if impl.OutcomeText(third) != text || fmt.Sprint(impl.TraceOf(u, in, 50), impl.NumbersFor(u), u, in) != told || fmt.Sprint(other, others, u, in) != told {
			t.Errorf("the results of %q depend on earlier ones", s)
		}
	}
}

// TestRunsLeaveMemoryAlone has lists that are the same memory, and have more memory behind them, which is not to be read or
// written.
func TestRunsLeaveMemoryAlone(t *testing.T) {
	numbers := []int{2, 1, 2, 7, 5, 900}
	phis := []impl.Phi{{To: 7, Args: numbers[:1]}, {To: 2, Args: numbers[1:2]}, {To: 900, Args: numbers}}
	ins := []impl.Ins{{Op: 3, To: 7, Args: numbers[:2]}, {Op: 3, To: 2, Args: numbers[1:3]}, {Op: 12, To: -1, Args: numbers[2:4]}, {Op: 13, To: -1, Args: numbers[:1]}, {Op: 77, Args: numbers}}
	blocks := []impl.Block{{Ins: ins[:4], Jump: 1, Next: numbers[1:2]}, {Phis: phis[:2], Ins: ins[:3], Jump: 3, On: 7}, {Jump: 88}}
	codes := []impl.Code{{Params: 1, Regs: 8, Blocks: blocks[:2]}, {Params: 2, Regs: 9, Blocks: blocks[:2]}, {Params: 3, Regs: 8, Blocks: blocks[:2]}, {Params: -1}}
	told := func() string { return fmt.Sprint(numbers, phis, ins, blocks, codes) }
	before := told()
	for n := range 5 {
		u := impl.Unit{Codes: codes[:n]}
		for length := range 4 {
			if end := checkUnitRuns(t, u, numbers[:length]); (end >= 0) != (n == length && n > 0 && n < 4) {
				t.Errorf("the first %d codes with %d numbers end with %d", n, length, end)
			}
		}
		checkNumbers(t, u, map[int]int{})
	}
	if after := told(); after != before {
		t.Errorf("what was given became %s", after)
	}
}
