package tests

import (
	"fmt"
	"math"
	"math/rand"
	"reflect"
	"regexp"
	"slices"
	"strconv"
	"strings"
	"testing"

	"loop.example/wholeway/impl"
)

// The blocks of the document's chapter 7, told a second time and in another way than the program tells them: on the rows of
// its tables, and on texts.

// insRow is a row of the table of instructions. The letter r stands for a register, - for the To -1; T, A, B and N in the
// text for the To, the Args and the N.
type insRow struct {
	to, args, text string
	most           int // the greatest N
}

var insRows = map[int]insRow{
	1: {"r", "", "rT = num N", 255}, 2: {"r", "r", "rT = copy rA", 0}, 3: {"r", "rr", "rT = add rA rB", 0}, 4: {"r", "rr", "rT = sub rA rB", 0}, 5: {"r", "rr", "rT = mul rA rB", 0},
	6: {"r", "rr", "rT = div rA rB", 0}, 7: {"r", "rr", "rT = rem rA rB", 0}, 8: {"r", "rr", "rT = less rA rB", 0}, 9: {"r", "rr", "rT = same rA rB", 0}, 10: {"r", "r", "rT = not rA", 0},
	11: {"r", "r", "rT = at rA", 0}, 12: {"-", "rr", "put rA rB", 0}, 13: {"-", "r", "say rA", 0}, 14: {"r", "", "rT = call N", -1},
}

var regWord = regexp.MustCompile(`\br\d+\b`)

// kindsOfRegs has an r for each register of a list, - for each -1, and x for all else.
func kindsOfRegs(regs int, list ...int) string {
	kinds := ""
	for _, r := range list {
		switch {
		case r == -1:
			kinds += "-"
		case 0 <= r && r < regs:
			kinds += "r"
		default:
			kinds += "x"
		}
	}
	return kinds
}

// wantInsValid tells whether an instruction is one of a code with so many registers, behind codes with so many Params.
func wantInsValid(x impl.Ins, regs int, earlier []int) bool {
	row, there := insRows[x.Op]
	if x.Op == 14 {
		row.most = len(earlier) - 1
		if x.N >= 0 && x.N <= row.most {
			row.args = "rrr"[:earlier[x.N]]
		}
	}
	return there && kindsOfRegs(regs, x.To) == row.to && kindsOfRegs(regs, x.Args...) == row.args && 0 <= x.N && x.N <= row.most
}

// wantPreds are the predecessors of all blocks of a code, which may be none: the pairs of a block and one of its Next in
// order, each once.
func wantPreds(c impl.Code) [][]int {
	var pairs [][2]int
	for b, x := range c.Blocks {
		for _, n := range x.Next {
			if n >= 0 && n < len(c.Blocks) {
				pairs = append(pairs, [2]int{n, b})
			}
		}
	}
	slices.SortFunc(pairs, func(a, b [2]int) int { return slices.Compare(a[:], b[:]) })
	preds := make([][]int, len(c.Blocks))
	for _, pair := range slices.Compact(pairs) {
		preds[pair[0]] = append(preds[pair[0]], pair[1])
	}
	return preds
}

// wantJumpValid tells whether the end of a block is one, in a code with so many registers and blocks.
func wantJumpValid(x impl.Block, regs int, blocks int) bool {
	next := ""
	for _, n := range x.Next {
		next += kindsOfRegs(blocks-1, max(n-1, -2)) // the blocks that may be Next begin with 1
	}
	on := kindsOfRegs(regs, x.On)
	return x.Jump == 1 && x.On == 0 && next == "r" || x.Jump == 2 && on == "r" && next == "rr" || x.Jump == 3 && on == "r" && next == ""
}

// wantCodeValid tells whether a code behind codes with so many Params is one, but for how many instructions it has.
func wantCodeValid(c impl.Code, earlier []int) bool {
	if c.Params < 0 || c.Params > 3 || c.Regs < c.Params || c.Regs > 300 || len(c.Blocks) < 1 || len(c.Blocks) > 160 {
		return false
	}
	preds := wantPreds(c)
	for b, x := range c.Blocks {
		if !wantJumpValid(x, c.Regs, len(c.Blocks)) || b == 0 && len(x.Phis) > 0 {
			return false
		}
		for _, y := range x.Ins {
			if !wantInsValid(y, c.Regs, earlier) {
				return false
			}
		}
		for _, y := range x.Phis {
			if kindsOfRegs(c.Regs, y.To)+kindsOfRegs(c.Regs, y.Args...) != strings.Repeat("r", 1+len(preds[b])) {
				return false
			}
		}
	}
	return true
}

// wantInsCount is how many instructions and phis a unit has, or -1 if it is not valid.
func wantInsCount(u impl.Unit) int {
	count := 0
	var earlier []int
	for _, c := range u.Codes {
		if len(u.Codes) > 4 || !wantCodeValid(c, earlier) {
			return -1
		}
		earlier = append(earlier, c.Params)
		for _, x := range c.Blocks {
			count += len(x.Phis) + len(x.Ins)
		}
	}
	if len(u.Codes) == 0 || count > 800 {
		return -1
	}
	return count
}

// regWords are registers, each with a space ahead.
func regWords(list ...int) string {
	words := ""
	for _, r := range list {
		words += " r" + strconv.Itoa(r)
	}
	return words
}

func wantInsText(x impl.Ins) string {
	if x.Op == 14 {
		return fmt.Sprintf("r%d = call %d%s\n", x.To, x.N, regWords(x.Args...))
	}
	args := append(slices.Clone(x.Args), 0, 0)
	told := strings.NewReplacer("T", strconv.Itoa(x.To), "A", strconv.Itoa(args[0]), "B", strconv.Itoa(args[1]), "N", strconv.Itoa(x.N))
	return told.Replace(insRows[x.Op].text) + "\n"
}

// wantCodeText is the text of a valid code.
func wantCodeText(c impl.Code) string {
	text := fmt.Sprintf("code %d %d\n", c.Params, c.Regs)
	for b, x := range c.Blocks {
		text += fmt.Sprintf("%d:\n", b)
		for _, y := range x.Phis {
			text += fmt.Sprintf("r%d = phi%s\n", y.To, regWords(y.Args...))
		}
		for _, y := range x.Ins {
			text += wantInsText(y)
		}
		switch x.Jump {
		case 1:
			text += fmt.Sprintf("go %d\n", x.Next[0])
		case 2:
			text += fmt.Sprintf("if r%d %d %d\n", x.On, x.Next[0], x.Next[1])
		default:
			text += fmt.Sprintf("back r%d\n", x.On)
		}
	}
	return text
}

// wantTight is the tight text of the text of a code.
func wantTight(text string) string {
	var params, regs int
	fmt.Sscanf(text, "code %d %d", &params, &regs)
	own := map[string]string{}
	for r := range params {
		own[fmt.Sprintf("r%d", r)] = fmt.Sprintf("r%d", r)
	}
	head, rest, _ := strings.Cut(text, "\n")
	rest = regWord.ReplaceAllStringFunc(rest, func(r string) string {
		if own[r] == "" {
			own[r] = fmt.Sprintf("r%d", len(own))
		}
		return own[r]
	})
	return strings.Fields(head)[0] + fmt.Sprintf(" %d %d\n", params, len(own)) + rest
}

// unitOf is the unit of a text, as UnitText returns it, in which lines may have spaces around them and end with `;`, too.
// What is told there need not be valid.
func unitOf(text string) impl.Unit {
	var u impl.Unit
	for _, line := range strings.FieldsFunc(text, func(r rune) bool { return r == ';' || r == '\n' }) {
		words := strings.Fields(line)
		if words[0] == "code" {
			n := numbersOf(words[1:])
			u.Codes = append(u.Codes, impl.Code{Params: n[0], Regs: n[1]})
			continue
		}
		c := &u.Codes[len(u.Codes)-1]
		if strings.HasSuffix(words[0], ":") {
			c.Blocks = append(c.Blocks, impl.Block{})
			continue
		}
		lineOf(&c.Blocks[len(c.Blocks)-1], words)
	}
	return u
}

// lineOf adds what a line tells to a block.
func lineOf(x *impl.Block, words []string) {
	to := -1
	if len(words) > 1 && words[1] == "=" {
		to, words = numbersOf(words[:1])[0], words[2:]
	}
	n := numbersOf(words[1:])
	switch words[0] {
	case "phi":
		x.Phis = append(x.Phis, impl.Phi{To: to, Args: n})
	case "go":
		x.Jump, x.Next = 1, n
	case "if":
		x.Jump, x.On, x.Next = 2, n[0], n[1:]
	case "back":
		x.Jump, x.On = 3, n[0]
	default:
		y := impl.Ins{To: to}
		for o, row := range insRows {
			if slices.Contains(strings.Fields(row.text), words[0]) {
				y.Op = o
			}
		}
		if y.Op == 1 || y.Op == 14 {
			y.N, n = n[0], n[1:]
		}
		y.Args = n
		x.Ins = append(x.Ins, y)
	}
}

// numbersOf are the numbers of words, of which those of registers have an r ahead.
func numbersOf(words []string) []int {
	var list []int
	for _, w := range words {
		n, err := strconv.Atoi(strings.TrimPrefix(w, "r"))
		if err != nil {
			panic(err)
		}
		list = append(list, n)
	}
	return list
}

// plainInts is a list that has memory of its own, nil if it is empty.
func plainInts(list []int) []int { return append([]int(nil), list...) }

func plainCode(c impl.Code) impl.Code {
	var blocks []impl.Block
	for _, x := range c.Blocks {
		y := impl.Block{Jump: x.Jump, On: x.On, Next: plainInts(x.Next)}
		for _, p := range x.Phis {
			y.Phis = append(y.Phis, impl.Phi{To: p.To, Args: plainInts(p.Args)})
		}
		for _, z := range x.Ins {
			y.Ins = append(y.Ins, impl.Ins{Op: z.Op, To: z.To, N: z.N, Args: plainInts(z.Args)})
		}
		blocks = append(blocks, y)
	}
	return impl.Code{Params: c.Params, Regs: c.Regs, Blocks: blocks}
}

func plainUnit(u impl.Unit) impl.Unit {
	var codes []impl.Code
	for _, c := range u.Codes {
		codes = append(codes, plainCode(c))
	}
	return impl.Unit{Codes: codes}
}

func equalUnits(a impl.Unit, b impl.Unit) bool { return reflect.DeepEqual(plainUnit(a), plainUnit(b)) }

// checkUnit compares all that the program tells of a unit, valid or not, with what it should tell, and checks promise 7 on
// it. It reports whether it is valid.
func checkUnit(t *testing.T, u impl.Unit) bool {
	t.Helper()
	before := plainUnit(u)
	count := wantInsCount(u)
	text, tight := "", ""
	for _, c := range u.Codes {
		if count >= 0 {
			one := wantCodeText(c)
			text += one
			tight += wantTight(one)
		}
	}
	if got := impl.UnitValid(u); got != (count >= 0) {
		t.Fatalf("UnitValid(%v) is %v", u, got)
	}
	if got := impl.InsCount(u); got != count {
		t.Fatalf("InsCount(%v) = %d; want %d", u, got, count)
	}
	if got := impl.UnitText(u); got != text || count >= 0 && !equalUnits(unitOf(got), u) {
		t.Fatalf("UnitText(%v) = %q; want %q", u, got, text)
	}
	checkParts(t, u)
	checkTight(t, u, tight)
	if !equalUnits(u, before) {
		t.Fatalf("%v became %v", before, u)
	}
	return count >= 0
}

// checkTight compares TightUnit of a unit with the unit of a text, none if this is empty.
func checkTight(t *testing.T, u impl.Unit, want string) {
	t.Helper()
	got, ok := impl.TightUnit(u)
	if ok != (want != "") || !equalUnits(got, unitOf(want)) {
		t.Fatalf("TightUnit(%v) = %v, %v; want %q", u, got, ok, want)
	}
	if !ok {
		return
	}
	if wantInsCount(got) < 0 || sharesWith(u, got) {
		t.Fatalf("TightUnit(%v) = %v, which is not valid, or shares memory", u, got)
	}
	again, ok := impl.TightUnit(got)
	if !ok || !equalUnits(again, got) || impl.UnitText(again) != want {
		t.Fatalf("TightUnit(%v) = %v, %v", got, again, ok)
	}
}

// checkParts checks what is told of the blocks and instructions of a unit, valid or not, and that it is itself.
func checkParts(t *testing.T, u impl.Unit) {
	t.Helper()
	if !impl.SameUnits(u, u) || !impl.SameUnits(plainUnit(u), u) {
		t.Fatalf("%v is not the same as itself", u)
	}
	for _, c := range u.Codes {
		if len(impl.PredsOf(c, -1)) > 0 || len(impl.PredsOf(c, len(c.Blocks))) > 0 {
			t.Fatalf("blocks lead to none of %v", c)
		}
		preds := wantPreds(c)
		for b, x := range c.Blocks {
			if got := impl.PredsOf(c, b); !slices.Equal(got, preds[b]) {
				t.Fatalf("PredsOf(%v, %d) = %v; want %v", c, b, got, preds[b])
			}
			for _, y := range x.Ins {
				checkIns(t, y)
			}
		}
	}
}

func checkIns(t *testing.T, x impl.Ins) {
	t.Helper()
	want := map[int]bool{}
	for _, r := range x.Args {
		want[r] = true
	}
	got := impl.UsesOf(x)
	for i, r := range got {
		if !want[r] || i > 0 && got[i-1] >= r {
			t.Fatalf("UsesOf(%v) = %v", x, got)
		}
	}
	to := -1
	if strings.HasPrefix(insRows[x.Op].text, "rT = ") {
		to = x.To
	}
	if len(got) != len(want) || impl.MadeBy(x) != to {
		t.Fatalf("UsesOf(%v) = %v, MadeBy is %d; want %v and %d", x, got, impl.MadeBy(x), want, to)
	}
}

// allOps has each Op and each Jump, and all that is told of codes.
const allOps = `code 1 3; 0:; r1 = num 255; r2 = add r0 r1; back r2
	code 0 1; 0:; r0 = num 0; back r0
	code 3 4; 0:; r3 = call 1; r0 = call 0 r3; r1 = call 0 r0; go 2
		1:; r2 = phi; back r2
		2:; r3 = phi r1 r2 r0; r0 = phi r0 r0 r3; say r3; if r3 3 2; 3:; if r0 2 2; 4:; go 5; 5:; r1 = phi r2 r0; go 5
	code 2 16; 0:; r2 = num 7; r3 = copy r2; r4 = add r0 r1; r5 = sub r1 r0; r6 = mul r5 r4; r7 = div r6 r5; r8 = rem r7 r6; r9 = less r8 r8
		r10 = same r9 r2; r11 = not r10; r12 = at r11; put r12 r3; say r12; r13 = call 2 r12 r12 r0; r14 = call 1; r15 = call 0 r14; if r15 1 2
		1:; back r15
		2:; go 3
		3:; r0 = phi r0 r15; r15 = phi r1 r1; r3 = num 128; if r0 3 4; 4:; back r0`

func TestUnitTexts(t *testing.T) {
	for _, s := range []string{
		"code 0 1; 0:; back r0", "code 1 1; 0:; back r0", "code 0 0; 0:; go 1; 1:; go 1", "code 3 3; 0:; go 1; 1:; back r2", "code 3 300; 0:; r299 = num 255; back r299", "code 1 3; 0:; r1 = num 1; r2 = add r0 r1; back r2",
		"code 1 5; 0:; r3 = num 1; if r0 1 2; 1:; r4 = add r0 r3; go 2; 2:; r1 = phi r3 r4; back r1", "code 1 4; 0:; r1 = num 1; r2 = add r0 r1; back r2; 1:; r3 = num 0; back r3",
		"code 0 1; 0:; r0 = num 0; back r0", "code 0 1; 0:; r0 = num 10; back r0", "code 0 2; 0:; r1 = copy r0; back r1", "code 0 2; 0:; r0 = copy r0; back r0", "code 0 2; 0:; r1 = not r0; back r1", "code 0 2; 0:; r1 = at r0; back r1", "code 0 3; 0:; r2 = sub r0 r1; r1 = sub r1 r0; back r2",
		"code 0 12; 0:; put r10 r11; put r11 r10; say r10; back r1", "code 0 1; 0:; back r0; code 0 1; 0:; r0 = call 0; back r0", "code 1 1; 0:; back r0; code 0 1; 0:; r0 = call 0 r0; back r0", "code 3 3; 0:; back r0; code 0 3; 0:; r0 = call 0 r2 r0 r1; back r0",
		"code 0 1; 0:; go 1; 1:; r0 = phi r0; r0 = phi r0; back r0", "code 0 1; 0:; back r0; 1:; r0 = phi; r0 = phi; back r0", "code 0 1; 0:; if r0 1 1; 1:; r0 = phi r0; back r0", "code 0 1; 0:; go 1; 1:; r0 = phi r0 r0; go 1", allOps,
	} {
		want := ""
		for _, line := range strings.FieldsFunc(s, func(r rune) bool { return r == ';' || r == '\n' }) {
			want += strings.TrimSpace(line) + "\n"
		}
		if got := impl.UnitText(unitOf(s)); got != want {
			t.Errorf("UnitText of %q is %q", s, got)
		}
		if !checkUnit(t, unitOf(s)) {
			t.Errorf("%q is not valid", s)
		}
	}
	for o, want := range []string{1: "r7 = num 44", 2: "r7 = copy r11", 3: "r7 = add r11 r5", 4: "r7 = sub r11 r5", 5: "r7 = mul r11 r5", 6: "r7 = div r11 r5", 7: "r7 = rem r11 r5", 8: "r7 = less r11 r5", 9: "r7 = same r11 r5", 10: "r7 = not r11", 11: "r7 = at r11", 12: "put r11 r5", 13: "say r11", 14: "r7 = call 0 r11 r5"} {
		x := impl.Ins{Op: o, To: 7, Args: []int{11, 5}[:strings.Count(want, "r11")+strings.Count(want, "r5")]}
		if o == 12 || o == 13 {
			x.To = -1
		}
		if o == 1 {
			x.N = 44
		}
		u := unitOf("code 2 2; 0:; back r0; code 0 12; 0:; back r3")
		u.Codes[1].Blocks[0].Ins = []impl.Ins{x}
		if got := impl.UnitText(u); o > 0 && got != "code 2 2\n0:\nback r0\ncode 0 12\n0:\n"+want+"\nback r3\n" {
			t.Errorf("UnitText of %v is %q; want %q", x, got, want)
		}
	}
}

// otherInts are lists that differ from one in one part.
func otherInts(list []int) [][]int {
	others := [][]int{append(slices.Clone(list), 0), append(slices.Clone(list), list...), append([]int{1}, list...)}
	for i, n := range list {
		others = append(others, slices.Delete(slices.Clone(list), i, i+1))
		for _, m := range []int{n + 1, n - 1, -1, 0, 1, 2, 300, math.MinInt, math.MaxInt} {
			other := slices.Clone(list)
			other[i] = m
			others = append(others, other)
		}
		other := slices.Clone(list)
		other[i], other[0] = other[0], other[i]
		others = append(others, other)
	}
	return slices.DeleteFunc(others, func(other []int) bool { return slices.Equal(other, list) })
}

// otherUnits hands out units that differ from one in one part.
func otherUnits(u impl.Unit, visit func(other impl.Unit)) {
	change := func(turn func(u impl.Unit) *int) {
		for _, other := range otherInts([]int{*turn(u)}) {
			if len(other) == 1 {
				v := plainUnit(u)
				*turn(v) = other[0]
				visit(v)
			}
		}
	}
	changeList := func(turn func(u impl.Unit) *[]int) {
		for _, other := range otherInts(*turn(u)) {
			v := plainUnit(u)
			*turn(v) = other
			visit(v)
		}
	}
	for k, c := range u.Codes {
		change(func(u impl.Unit) *int { return &u.Codes[k].Params })
		change(func(u impl.Unit) *int { return &u.Codes[k].Regs })
		for b, x := range c.Blocks {
			at := func(u impl.Unit) *impl.Block { return &u.Codes[k].Blocks[b] }
			change(func(u impl.Unit) *int { return &at(u).Jump })
			change(func(u impl.Unit) *int { return &at(u).On })
			changeList(func(u impl.Unit) *[]int { return &at(u).Next })
			for i := range x.Phis {
				change(func(u impl.Unit) *int { return &at(u).Phis[i].To })
				changeList(func(u impl.Unit) *[]int { return &at(u).Phis[i].Args })
			}
			for i := range x.Ins {
				change(func(u impl.Unit) *int { return &at(u).Ins[i].Op })
				change(func(u impl.Unit) *int { return &at(u).Ins[i].To })
				change(func(u impl.Unit) *int { return &at(u).Ins[i].N })
				changeList(func(u impl.Unit) *[]int { return &at(u).Ins[i].Args })
			}
		}
	}
	otherLists(u, visit)
}

// otherLists hands out units that have one part more or less than one, or two of them changed for each other.
func otherLists(u impl.Unit, visit func(other impl.Unit)) {
	for k, c := range u.Codes {
		visitOthers(c.Blocks, impl.Block{Jump: 3}, func(list []impl.Block) {
			v := plainUnit(u)
			v.Codes[k].Blocks = list
			visit(v)
		})
		for b, x := range c.Blocks {
			visitOthers(x.Phis, impl.Phi{}, func(list []impl.Phi) {
				v := plainUnit(u)
				v.Codes[k].Blocks[b].Phis = list
				visit(v)
			})
			visitOthers(x.Ins, impl.Ins{Op: 1}, func(list []impl.Ins) {
				v := plainUnit(u)
				v.Codes[k].Blocks[b].Ins = list
				visit(v)
			})
		}
	}
	visitOthers(u.Codes, unitOf("code 0 1; 0:; back r0").Codes[0], func(list []impl.Code) { visit(impl.Unit{Codes: list}) })
}

// visitOthers visits lists that have one item more or less than one, or two items in each other's place.
func visitOthers[T any](list []T, more T, visit func(list []T)) {
	for i := range len(list) + 1 {
		visit(slices.Insert(slices.Clone(list), i, more))
		if i < len(list) {
			visit(slices.Insert(slices.Clone(list), i, list[i]))
			visit(slices.Delete(slices.Clone(list), i, i+1))
		}
		if i+1 < len(list) && !reflect.DeepEqual(list[i], list[i+1]) {
			other := slices.Clone(list)
			other[i], other[i+1] = other[i+1], other[i]
			visit(other)
		}
	}
}

// TestUnitsAreTheirTexts checks promise 7 on units that differ in one part alone: none has the text of another one.
func TestUnitsAreTheirTexts(t *testing.T) {
	for _, s := range []string{"code 0 1; 0:; back r0", "code 0 0; 0:; go 1; 1:; go 1", "code 1 3; 0:; r1 = num 1; if r0 1 1; 1:; r2 = phi r1; back r2", allOps, "code 2 5; 0:; r2 = num 1; r3 = num 1; say r2; put r2 r3; if r3 1 2; 1:; r4 = phi r2 r3; r3 = phi r4 r4; r1 = sub r3 r4; go 1; 2:; r4 = phi; go 3; 3:; back r4; code 0 3; 0:; r1 = call 0 r2 r1; back r1; 1:; go 2; 2:; go 1; 3:; r0 = phi; r1 = phi; back r0"} {
		u := unitOf(s)
		seen := map[string]impl.Unit{impl.UnitText(u): u}
		valid, wrong := 0, 0
		otherUnits(u, func(other impl.Unit) {
			if impl.SameUnits(u, other) || impl.SameUnits(other, u) {
				t.Fatalf("%v and %v are the same", u, other)
			}
			if !checkUnit(t, other) {
				wrong++
				return
			}
			valid++
			text := impl.UnitText(other)
			if twin, there := seen[text]; there && !equalUnits(twin, other) {
				t.Fatalf("%v and %v have the text %q", twin, other, text)
			}
			seen[text] = other
		})
		if wrong < 25 || valid < 4 || len(u.Codes) == 4 && (wrong < 1000 || valid < 400) {
			t.Errorf("%d valid and %d other units differ from %q", valid, wrong, s)
		}
	}
}

// TestDifferentTexts has pairs of units that differ in one part, told by hand.
func TestDifferentTexts(t *testing.T) {
	list := []string{
		"code 1 4; 0:; r1 = num 1; r2 = add r0 r1; say r2; if r2 1 2; 1:; go 2; 2:; r3 = phi r1 r2; back r3",
		"code 1 4; 0:; r3 = num 1; r2 = add r0 r1; say r2; if r2 1 2; 1:; go 2; 2:; r3 = phi r1 r2; back r3", // a To
		"code 1 4; 0:; r1 = num 1; r2 = add r1 r1; say r2; if r2 1 2; 1:; go 2; 2:; r3 = phi r1 r2; back r3", // an Arg
		"code 1 4; 0:; r1 = num 1; r2 = add r0 r0; say r2; if r2 1 2; 1:; go 2; 2:; r3 = phi r1 r2; back r3",
		"code 1 4; 0:; r1 = num 2; r2 = add r0 r1; say r2; if r2 1 2; 1:; go 2; 2:; r3 = phi r1 r2; back r3", // an N
		"code 1 4; 0:; r1 = num 1; r2 = sub r0 r1; say r2; if r2 1 2; 1:; go 2; 2:; r3 = phi r1 r2; back r3", // an Op
		"code 1 4; 0:; r1 = num 1; r2 = add r0 r1; say r1; if r2 1 2; 1:; go 2; 2:; r3 = phi r1 r2; back r3",
		"code 1 4; 0:; r1 = num 1; r2 = add r0 r1; say r2; if r1 1 2; 1:; go 2; 2:; r3 = phi r1 r2; back r3", // an On
		"code 1 4; 0:; r1 = num 1; r2 = add r0 r1; say r2; if r2 2 1; 1:; go 2; 2:; r3 = phi r1 r2; back r3", // a Next
		"code 1 4; 0:; r1 = num 1; r2 = add r0 r1; say r2; if r2 1 2; 1:; go 2; 2:; r2 = phi r1 r2; back r3", // a phi
		"code 1 4; 0:; r1 = num 1; r2 = add r0 r1; say r2; if r2 1 2; 1:; go 2; 2:; r3 = phi r1 r3; back r3",
		"code 1 4; 0:; r1 = num 1; r2 = add r0 r1; say r2; if r2 1 2; 1:; go 2; 2:; r3 = phi r2 r1; back r3",
		"code 1 4; 0:; r1 = num 1; r2 = add r0 r1; say r2; if r2 1 2; 1:; go 2; 2:; r3 = phi r1 r2; r3 = phi r1 r2; back r3",
		"code 1 4; 0:; r1 = num 1; r2 = add r0 r1; say r2; if r2 1 2; 1:; go 2; 2:; back r3",
		"code 1 4; 0:; r1 = num 1; r2 = add r0 r1; say r2; if r2 1 2; 1:; go 2; 2:; r3 = phi r1 r2; back r2",
		"code 1 4; 0:; r1 = num 1; r2 = add r0 r1; say r2; if r2 1 2; 1:; go 2; 2:; r3 = phi r1 r2; back r3; 3:; go 3", // a block
		"code 0 4; 0:; r1 = num 1; r2 = add r0 r1; say r2; if r2 1 2; 1:; go 2; 2:; r3 = phi r1 r2; back r3",           // a Params
		"code 1 5; 0:; r1 = num 1; r2 = add r0 r1; say r2; if r2 1 2; 1:; go 2; 2:; r3 = phi r1 r2; back r3",           // a Regs
		"code 1 4; 0:; r1 = num 1; r2 = add r0 r1; say r2; if r2 1 2; 1:; if r0 2 2; 2:; r3 = phi r1 r2; back r3",      // a Jump
		"code 0 1; 0:; back r0; code 1 4; 0:; r1 = num 1; r2 = add r0 r1; say r2; if r2 1 2; 1:; go 2; 2:; r3 = phi r1 r2; back r3",
	}
	for i, s := range list {
		for k, r := range list {
			if same := impl.SameUnits(unitOf(s), unitOf(r)); same != (i == k) || same != (impl.UnitText(unitOf(s)) == impl.UnitText(unitOf(r))) {
				t.Errorf("%q and %q: SameUnits is %v", s, r, same)
			}
		}
		if !checkUnit(t, unitOf(s)) {
			t.Errorf("%q is not valid", s)
		}
	}
}

// validCase is the text of a unit, and whether it is valid.
type validCase struct {
	s  string
	ok bool
}

func checkValidCases(t *testing.T, list []validCase) {
	t.Helper()
	for _, c := range list {
		if checkUnit(t, unitOf(c.s)) != c.ok {
			t.Errorf("%q is valid: %v", c.s, !c.ok)
		}
	}
}

func TestUnitSizes(t *testing.T) {
	checkValidCases(t, []validCase{
		{"code 0 1; 0:; back r0", true}, {"code 0 0; 0:; back r0", false}, {"code 0 0; 0:; go 1; 1:; go 1", true}, {"code 0 -1; 0:; go 1; 1:; go 1", false}, {"code -1 0; 0:; go 1; 1:; go 1", false}, {"code -1 1; 0:; back r0", false}, {"code -2 -1; 0:; go 1; 1:; go 1", false}, {"code -1 -1; 0:; go 1; 1:; go 1", false},
		{"code 0 300; 0:; back r299", true}, {"code 0 300; 0:; back r300", false}, {"code 0 301; 0:; back r0", false}, {"code 3 301; 0:; back r0", false}, {"code 3 3; 0:; back r2", true}, {"code 3 4; 0:; back r3", true}, {"code 4 4; 0:; back r0", false}, {"code 4 300; 0:; back r0", false},
		{"code 3 2; 0:; back r0", false}, {"code 2 1; 0:; back r0", false}, {"code 1 0; 0:; go 1; 1:; go 1", false}, {"code 1 1; 0:; back r0", true}, {"code 0 1", false}, {"code 0 1; 0:; back r0; code 0 1", false}, {"code 0 1; code 0 1; 0:; back r0", false}, {"code 300 300; 0:; back r0", false},
	})
	one := unitOf("code 0 1; 0:; r0 = num 0; back r0").Codes[0]
	for n := range 9 {
		u := impl.Unit{Codes: slices.Repeat([]impl.Code{one}, n)}
		if checkUnit(t, u) != (n >= 1 && n <= 4) {
			t.Errorf("a unit of %d codes is valid: %v", n, impl.UnitValid(u))
		}
		if want := strings.Repeat("code 0 1\n0:\nr0 = num 0\nback r0\n", n); n <= 4 && impl.UnitText(u) != want || n >= 1 && n <= 4 && impl.InsCount(u) != n {
			t.Errorf("the text of %d codes is %q", n, impl.UnitText(u))
		}
	}
}

func TestUnitBlocksLimit(t *testing.T) {
	for _, n := range []int{1, 2, 159, 160, 161, 162, 320} {
		rows := "code 1 1"
		for b := range n - 1 {
			rows += fmt.Sprintf("; %d:; go %d", b, b+1)
		}
		rows += fmt.Sprintf("; %d:; back r0", n-1)
		for k := range 4 {
			s := strings.Repeat("code 1 1; 0:; back r0;", k) + rows + strings.Repeat("; code 1 1; 0:; back r0", 3-k)
			if checkUnit(t, unitOf(s)) != (n <= 160) {
				t.Errorf("a unit with a code of %d blocks is valid: %v", n, n > 160)
			}
		}
	}
	full := strings.Repeat("; 0:; back r0", 160)
	checkValidCases(t, []validCase{{strings.Repeat(";code 1 1"+full, 4), true}, {strings.Repeat(";code 1 1"+full, 4) + "; 160:; back r0", false}})
}

// ofIns is a unit whose codes have so many instructions and phis each, which stand in one block or in all of them.
func ofIns(spread bool, phis bool, counts ...int) impl.Unit {
	var u impl.Unit
	for _, n := range counts {
		c := unitOf("code 1 2; 0:; go 1; 1:; if r0 2 1; 2:; back r1").Codes[0]
		for i := range n {
			b := 1
			if spread {
				b = i % 3
			}
			x := &c.Blocks[b]
			if phis && b > 0 && i%2 == 0 {
				x.Phis = append(x.Phis, impl.Phi{To: 1, Args: []int{0, 1}[:3-b]})
			} else {
				x.Ins = append(x.Ins, impl.Ins{Op: 13, To: -1, Args: []int{i % 2}})
			}
		}
		u.Codes = append(u.Codes, c)
	}
	return u
}

func TestUnitInsLimit(t *testing.T) {
	for _, counts := range [][]int{{0}, {1}, {799}, {800}, {801}, {802}, {1600}, {0, 800}, {800, 0}, {0, 801}, {801, 0}, {400, 400}, {400, 401}, {401, 400}, {800, 1}, {1, 800}, {200, 200, 200, 200}, {200, 200, 200, 201}, {201, 200, 200, 200}, {200, 201, 200, 200}, {0, 0, 0, 800}, {0, 0, 1, 800}, {800, 800}, {300, 300, 300}, {799, 0, 0, 1}} {
		sum := 0
		for _, n := range counts {
			sum += n
		}
		for i := range 4 {
			u := ofIns(i%2 == 1, i/2 == 1, counts...)
			want := sum
			if sum > 800 {
				want = -1
			}
			if checkUnit(t, u) != (sum <= 800) || impl.InsCount(u) != want {
				t.Errorf("InsCount of a unit of %v is %d", counts, impl.InsCount(u))
			}
		}
	}
	rows := "code 1 1; 0:; go 1; 1:" // each phi and each instruction counts as one, however many Args it has
	for range 800 {
		rows += "; r0 = phi" + strings.Repeat(" r0", 159)
	}
	rows += "; back r0"
	for b := 2; b < 160; b++ {
		rows += fmt.Sprintf("; %d:; go 1", b)
	}
	if u := unitOf(rows); !checkUnit(t, u) || impl.InsCount(u) != 800 {
		t.Errorf("InsCount of 800 great phis is %d", impl.InsCount(u))
	}
}

// withLines is a unit with some lines in its main code, which has the registers r0 to r4, and is behind codes with no Param,
// with one and with three.
func withLines(s string) string {
	return "code 0 1; 0:; back r0; code 1 1; 0:; back r0; code 3 3; 0:; back r0; code 1 5; 0:; " + s
}

func TestInsRegisters(t *testing.T) {
	for _, row := range []string{"r? = num 1", "r? = copy r0", "r0 = copy r?", "r? = add r0 r0", "r0 = add r? r0", "r0 = add r0 r?", "r? = sub r0 r0", "r0 = sub r? r0", "r0 = sub r0 r?", "r? = mul r0 r0", "r0 = mul r? r0", "r0 = mul r0 r?", "r? = div r0 r0", "r0 = div r? r0", "r0 = div r0 r?", "r? = rem r0 r0", "r0 = rem r? r0", "r0 = rem r0 r?", "r? = less r0 r0", "r0 = less r? r0", "r0 = less r0 r?", "r? = same r0 r0", "r0 = same r? r0", "r0 = same r0 r?",
		"r? = not r0", "r0 = not r?", "r? = at r0", "r0 = at r?", "put r? r0", "put r0 r?", "say r?", "r? = call 0", "r? = call 1 r0", "r0 = call 1 r?", "r? = call 2 r0 r0 r0", "r0 = call 2 r? r0 r0", "r0 = call 2 r0 r? r0", "r0 = call 2 r0 r0 r?"} {
		for r, ok := range map[int]bool{math.MinInt: false, -2: false, -1: false, 0: true, 1: true, 4: true, 5: false, 6: false, 300: false, math.MaxInt: false} {
			s := withLines(strings.Replace(row, "?", strconv.Itoa(r), 1) + "; back r0")
			checkValidCases(t, []validCase{{s, ok}})
		}
	}
	for _, row := range []string{"go 1; 1:; r? = phi r0; back r0", "go 1; 1:; r0 = phi r?; back r0", "if r0 1 2; 1:; go 2; 2:; r0 = phi r0 r?; back r0", "back r?", "if r? 1 1; 1:; back r0"} {
		for r, ok := range map[int]bool{math.MinInt: false, -2: false, -1: false, 0: true, 1: true, 4: true, 5: false, 6: false, 300: false, math.MaxInt: false} {
			checkValidCases(t, []validCase{{withLines(strings.Replace(row, "?", strconv.Itoa(r), 1)), ok}})
		}
	}
	for to, ok := range map[string]bool{"r-1 = ": true, "": true, "r-2 = ": false, "r0 = ": false, "r1 = ": false, "r4 = ": false, "r5 = ": false} {
		checkValidCases(t, []validCase{{withLines(to + "put r0 r1; back r0"), ok}, {withLines(to + "say r0; back r0"), ok}})
	}
}

func TestInsNumbers(t *testing.T) {
	for n := -3; n < 260; n++ {
		checkValidCases(t, []validCase{{withLines(fmt.Sprintf("r0 = num %d; back r0", n)), n >= 0 && n <= 255}})
	}
	for _, n := range []int{math.MinInt, math.MaxInt, math.MinInt32, 1 << 32} {
		checkValidCases(t, []validCase{{withLines(fmt.Sprintf("r0 = num %d; back r0", n)), false}, {withLines(fmt.Sprintf("r0 = call %d; back r0", n)), false}})
	}
	for o, row := range insRows {
		for _, n := range []int{math.MinInt, -2, -1, 0, 1, 2, 255, 256} {
			x := impl.Ins{Op: o, To: 0, N: n, Args: make([]int, len(row.args))}
			if row.to == "-" {
				x.To = -1
			}
			u := unitOf(withLines("back r0"))
			u.Codes[3].Blocks[0].Ins = []impl.Ins{x}
			if ok := checkUnit(t, u); ok != (n == 0 || o == 1 && n > 0 && n < 256) {
				t.Errorf("%v is valid: %v", x, ok)
			}
		}
	}
}

func TestInsArgs(t *testing.T) {
	counts := map[int]int{1: 0, 2: 1, 3: 2, 4: 2, 5: 2, 6: 2, 7: 2, 8: 2, 9: 2, 10: 1, 11: 1, 12: 2, 13: 1, 14: 0}
	for o := -3; o < 20; o++ {
		for n := range 6 {
			for to := -1; to < 1; to++ {
				u := unitOf(withLines("back r0"))
				x := impl.Ins{Op: o, To: to, Args: make([]int, n)}
				u.Codes[3].Blocks[0].Ins = []impl.Ins{x}
				most, there := counts[o]
				if ok := checkUnit(t, u); ok != (there && n == most && (to == -1) == (o == 12 || o == 13)) {
					t.Errorf("%v is valid: %v", x, ok)
				}
			}
		}
	}
	for _, o := range []int{math.MinInt, -14, 0, 15, 16, 1 << 32, 1<<32 + 3, math.MaxInt} {
		for n := range 4 {
			u := unitOf(withLines("back r0"))
			u.Codes[3].Blocks[0].Ins = []impl.Ins{{Op: o, Args: make([]int, n)}}
			if checkUnit(t, u) {
				t.Errorf("the Op %d is one", o)
			}
		}
	}
}

func TestCallsOfCodes(t *testing.T) {
	checkValidCases(t, []validCase{
		{withLines("r0 = call 0; back r0"), true}, {withLines("r0 = call 0 r0; back r0"), false}, {withLines("r0 = call 1 r0; back r0"), true}, {withLines("r0 = call 1; back r0"), false}, {withLines("r0 = call 1 r0 r0; back r0"), false}, {withLines("r0 = call 1 r0 r0 r0; back r0"), false},
		{withLines("r0 = call 2 r0 r1 r2; back r0"), true}, {withLines("r0 = call 2 r0 r0 r0; back r0"), true}, {withLines("r0 = call 2 r0 r0; back r0"), false}, {withLines("r0 = call 2; back r0"), false}, {withLines("r0 = call 2 r0; back r0"), false}, {withLines("r0 = call 2 r0 r0 r0 r0; back r0"), false},
		{withLines("r0 = call 3 r0; back r0"), false}, {withLines("r0 = call 3; back r0"), false}, {withLines("r0 = call 4; back r0"), false}, {withLines("r0 = call 4 r0; back r0"), false}, {withLines("r0 = call -1; back r0"), false}, {withLines("r0 = call -1 r0; back r0"), false}, {withLines("r0 = call -2; back r0"), false},
		{"code 0 1; 0:; r0 = call 0; back r0", false}, {"code 1 1; 0:; r0 = call 0 r0; back r0", false}, {"code 0 1; 0:; r0 = call 1; back r0", false}, {"code 0 1; 0:; r0 = call -1; back r0", false}, {"code 0 1; 0:; r0 = call 1; back r0; code 0 1; 0:; back r0", false}, {"code 0 1; 0:; r0 = call 0; back r0; code 0 1; 0:; back r0", false},
		{"code 0 1; 0:; back r0; code 0 1; 0:; r0 = call 0; back r0; code 0 1; 0:; back r0", true}, {"code 0 1; 0:; back r0; code 0 1; 0:; r0 = call 1; back r0; code 0 1; 0:; back r0", false}, {"code 0 1; 0:; back r0; code 0 1; 0:; r0 = call 2; back r0; code 0 1; 0:; back r0", false},
		{"code 0 1; 0:; back r0; code 0 1; 0:; r0 = call 0; back r0; code 0 1; 0:; r0 = call 0; r0 = call 1; back r0; code 0 1; 0:; r0 = call 2; r0 = call 1; r0 = call 0; back r0", true},
		{"code 1 1; 0:; back r0; code 2 2; 0:; r0 = call 0 r1; back r0; code 0 1; 0:; r0 = call 1 r0 r0; back r0", true}, {"code 1 1; 0:; back r0; code 2 2; 0:; r0 = call 0 r1 r0; back r0; code 0 1; 0:; r0 = call 1 r0 r0; back r0", false}, {"code 2 2; 0:; back r0; code 1 1; 0:; r0 = call 0 r0 r0; back r0", true}, {"code 2 2; 0:; back r0; code 1 1; 0:; r0 = call 0 r0; back r0", false},
	})
}

func TestJumps(t *testing.T) {
	checkValidCases(t, []validCase{
		{withLines("go 1; 1:; back r0"), true}, {withLines("if r0 1 1; 1:; back r0"), true}, {withLines("if r0 1 2; 1:; back r0; 2:; back r0"), true}, {withLines("if r0 2 1; 1:; back r0; 2:; back r0"), true}, {withLines("back r0; 1:; back r0"), true},
		{withLines("go; 1:; back r0"), false}, {withLines("go 1 1; 1:; back r0"), false}, {withLines("go 1 2; 1:; back r0; 2:; back r0"), false}, {withLines("if r0; 1:; back r0"), false}, {withLines("if r0 1; 1:; back r0"), false}, {withLines("if r0 1 1 1; 1:; back r0"), false}, {withLines("if r0 1 2 1; 1:; back r0; 2:; back r0"), false},
		{withLines("go 0"), false}, {withLines("go 0; 1:; back r0"), false}, {withLines("go 2; 1:; back r0"), false}, {withLines("go -1; 1:; back r0"), false}, {withLines("go 1"), false}, {withLines("go 1; 1:; go 1"), true}, {withLines("go 1; 1:; go 0"), false}, {withLines("go 1; 1:; go 2; 2:; go 1"), true}, {withLines("go 1; 1:; go 3; 2:; go 1"), false},
		{withLines("if r0 0 1; 1:; back r0"), false}, {withLines("if r0 1 0; 1:; back r0"), false}, {withLines("if r0 2 1; 1:; back r0"), false}, {withLines("if r0 1 2; 1:; back r0"), false}, {withLines("if r0 -1 1; 1:; back r0"), false}, {withLines("if r0 1 -1; 1:; back r0"), false}, {withLines("if r0 1 1; 1:; if r0 1 1"), true}, {withLines("if r0 1 1; 1:; if r0 1 0"), false},
	})
	for _, j := range []int{math.MinInt, -3, -2, -1, 0, 1, 2, 3, 4, 5, 14, 1 << 32, 1<<32 + 1, math.MaxInt} {
		for on := -1; on < 6; on++ {
			for n := range 4 {
				u := unitOf(withLines("back r0; 1:; back r0"))
				x := &u.Codes[3].Blocks[0]
				x.Jump, x.On, x.Next = j, on, []int{1, 1, 1}[:n]
				want := j == 1 && on == 0 && n == 1 || j == 2 && on >= 0 && on < 5 && n == 2 || j == 3 && on >= 0 && on < 5 && n == 0
				if checkUnit(t, u) != want {
					t.Errorf("the Jump %d with the On %d and %d Next is valid: %v", j, on, n, !want)
				}
			}
		}
	}
	for _, n := range []int{math.MinInt, math.MaxInt, 160, 1 << 32, 1<<32 + 1} {
		checkValidCases(t, []validCase{{withLines(fmt.Sprintf("go %d; 1:; back r0", n)), false}, {withLines(fmt.Sprintf("if r0 1 %d; 1:; back r0", n)), false}, {withLines(fmt.Sprintf("if r0 %d 1; 1:; back r0", n)), false}})
	}
}

func TestPhis(t *testing.T) {
	checkValidCases(t, []validCase{
		{withLines("r0 = phi; back r0"), false}, {withLines("r0 = phi r0; back r0"), false}, {withLines("r0 = phi; go 1; 1:; back r0"), false},
		{withLines("back r0; 1:; r0 = phi; back r0"), true}, {withLines("back r0; 1:; r0 = phi r0; back r0"), false}, {withLines("back r0; 1:; r0 = phi; r1 = phi; back r0; 2:; r0 = phi; back r0"), true},
		{withLines("go 1; 1:; r0 = phi r1; back r0"), true}, {withLines("go 1; 1:; r0 = phi; back r0"), false}, {withLines("go 1; 1:; r0 = phi r1 r2; back r0"), false}, {withLines("go 1; 1:; r0 = phi r1; r0 = phi r1; back r0"), true}, {withLines("go 1; 1:; r0 = phi r1; r0 = phi; back r0"), false}, {withLines("go 1; 1:; r0 = phi; r0 = phi r0; back r0"), false}, {withLines("go 1; 1:; r0 = phi r1; r0 = phi r1 r1; back r0"), false},
		{withLines("if r0 1 1; 1:; r0 = phi r1; back r0"), true}, {withLines("if r0 1 1; 1:; r0 = phi r1 r1; back r0"), false}, {withLines("if r0 1 1; 1:; r0 = phi; back r0"), false},
		{withLines("if r0 1 2; 1:; go 2; 2:; r0 = phi r1 r2; back r0"), true}, {withLines("if r0 1 2; 1:; go 2; 2:; r0 = phi r1; back r0"), false}, {withLines("if r0 1 2; 1:; go 2; 2:; r0 = phi r1 r1 r1; back r0"), false}, {withLines("if r0 1 2; 1:; r0 = phi r1; go 2; 2:; r0 = phi r1 r1; back r0"), true}, {withLines("if r0 1 2; 1:; r0 = phi r1 r1; go 2; 2:; r0 = phi r1 r1; back r0"), false},
		{withLines("go 1; 1:; r0 = phi r1 r2; go 1"), true}, {withLines("go 1; 1:; r0 = phi r1; go 1"), false}, {withLines("go 1; 1:; r0 = phi r1 r2; if r0 1 1"), true}, {withLines("go 1; 1:; r0 = phi r1 r2 r3; if r0 1 1"), false}, {withLines("back r0; 1:; r0 = phi r1; go 1"), true}, {withLines("back r0; 1:; r0 = phi; go 1"), false},
		{withLines("back r0; 1:; r0 = phi r1 r2; back r0; 2:; go 1; 3:; go 1"), true}, {withLines("back r0; 1:; r0 = phi r1; back r0; 2:; go 1; 3:; go 1"), false}, // what is not reached leads to blocks, too
		{withLines("go 2; 1:; r0 = phi; back r0; 2:; r0 = phi r1; back r0"), true}, {withLines("go 2; 1:; r0 = phi r1; back r0; 2:; r0 = phi; back r0"), false}, {"code 0 1; 0:; r0 = phi; back r0; code 0 1; 0:; back r0", false}, {"code 0 1; 0:; go 1; 1:; r0 = phi; back r0; code 0 1; 0:; back r0", false}, {"code 0 0; 0:; go 1; 1:; r0 = phi r0; go 1", false}, {"code 0 0; 0:; go 1; 1:; go 1; 2:; r0 = phi; go 1", false},
	})
	for n := range 160 { // n blocks lead to block 1
		rows := "code 0 1; 0:; go 2; 1:; r0 = phi?; back r0; 2:; back r0"
		for b := range n {
			rows += fmt.Sprintf("; %d:; if r0 1 1", b+3)
		}
		if n > 10 && n < 150 && n%17 != 0 {
			continue
		}
		for args := max(0, n-1); args <= n+1; args++ {
			checkValidCases(t, []validCase{{strings.Replace(rows, "?", strings.Repeat(" r0", args), 1), args == n && n+3 <= 160}})
		}
	}
}

// TestAllSmallIns has each instruction with few registers, of which some are none, against the second telling.
func TestAllSmallIns(t *testing.T) {
	var lists [][]int
	lists = append(lists, nil)
	for from := 0; len(lists[from]) < 4; from++ {
		for _, r := range []int{-1, 0, 4, 5} {
			lists = append(lists, append(slices.Clone(lists[from]), r))
		}
	}
	u := unitOf(withLines("say r0; back r0"))
	valid := 0
	for o := -1; o < 17; o++ {
		for _, to := range []int{-2, -1, 0, 4, 5} {
			for _, n := range []int{-1, 0, 1, 2, 3, 255, 256} {
				for _, args := range lists {
					x := impl.Ins{Op: o, To: to, N: n, Args: args}
					u.Codes[3].Blocks[0].Ins[0] = x
					want := wantInsValid(x, 5, []int{0, 1, 3})
					if got := impl.UnitValid(u); got != want {
						t.Fatalf("%v is valid: %v", x, got)
					}
					if want {
						checkUnit(t, u)
						valid++
					}
				}
			}
		}
	}
	if valid != 2*5+7*2*4+3*2*2+4+2+2*(1+2+8) {
		t.Errorf("%d small instructions are valid", valid)
	}
}

// someIns is a random instruction of a code with some registers behind codes with so many Params.
func someIns(rnd *rand.Rand, regs int, earlier []int) impl.Ins {
	o := 1 + rnd.Intn(13+min(1, len(earlier)))
	x := impl.Ins{Op: o, To: rnd.Intn(regs)}
	n := len(insRows[o].args)
	switch o {
	case 1:
		x.N = rnd.Intn(256)
	case 12, 13:
		x.To = -1
	case 14:
		x.N = rnd.Intn(len(earlier))
		n = earlier[x.N]
	}
	for range n {
		x.Args = append(x.Args, rnd.Intn(regs))
	}
	return x
}

// someUnit is a random valid unit.
func someUnit(rnd *rand.Rand) impl.Unit {
	var u impl.Unit
	var earlier []int
	for range 1 + rnd.Intn(4) {
		c := impl.Code{Params: rnd.Intn(4)}
		c.Regs = max(1, c.Params+rnd.Intn(9))
		c.Blocks = make([]impl.Block, 1+rnd.Intn(6))
		for b := range c.Blocks {
			x := &c.Blocks[b]
			x.Jump = 3
			if len(c.Blocks) > 1 {
				x.Jump = 1 + rnd.Intn(3)
			}
			for range []int{0, 1, 2, 0}[x.Jump] {
				x.Next = append(x.Next, 1+rnd.Intn(len(c.Blocks)-1))
			}
			if x.Jump > 1 {
				x.On = rnd.Intn(c.Regs)
			}
			for range rnd.Intn(4) {
				x.Ins = append(x.Ins, someIns(rnd, c.Regs, earlier))
			}
		}
		for b, preds := range wantPreds(c) {
			for range rnd.Intn(3) * min(b, 1) {
				phi := impl.Phi{To: rnd.Intn(c.Regs)}
				for range preds {
					phi.Args = append(phi.Args, rnd.Intn(c.Regs))
				}
				c.Blocks[b].Phis = append(c.Blocks[b].Phis, phi)
			}
		}
		u.Codes = append(u.Codes, c)
		earlier = append(earlier, c.Params)
	}
	return u
}

func TestRandomUnits(t *testing.T) {
	rnd := rand.New(rand.NewSource(7))
	texts := map[string]impl.Unit{}
	valid, wrong := 0, 0
	for i := range 2500 {
		u := someUnit(rnd)
		if !checkUnit(t, u) {
			t.Fatalf("%v is not valid", u)
		}
		text := impl.UnitText(u)
		if twin, there := texts[text]; there && !equalUnits(twin, u) {
			t.Fatalf("%v and %v have the text %q", twin, u, text)
		}
		texts[text] = u
		if i%25 > 0 {
			continue
		}
		otherUnits(u, func(other impl.Unit) {
			if rnd.Intn(10) > 0 {
				return
			}
			if impl.SameUnits(u, other) || impl.SameUnits(other, u) {
				t.Fatalf("%v and %v are the same", u, other)
			}
			if checkUnit(t, other) {
				valid++
			} else {
				wrong++
			}
		})
	}
	if len(texts) < 2000 || valid < 300 || wrong < 3000 {
		t.Errorf("too few random units: %d, with %d valid and %d other changed ones", len(texts), valid, wrong)
	}
}

func TestPredsOf(t *testing.T) {
	for _, c := range []struct {
		s    string
		want [][]int
	}{
		{"code 1 1; 0:; if r0 1 2; 1:; go 3; 2:; go 3; 3:; back r0", [][]int{nil, {0}, {0}, {1, 2}}},
		{"code 1 1; 0:; if r0 1 1; 1:; if r0 1 1", [][]int{nil, {0, 1}}},
		{"code 1 1; 0:; go 3; 1:; go 3; 2:; if r0 3 3; 3:; if r0 4 3; 4:; if r0 1 3", [][]int{nil, {4}, nil, {0, 1, 2, 3, 4}, {3}}},
		{"code 1 1; 0:; back r0; 1:; go 2; 2:; go 1", [][]int{nil, {2}, {1}}},
		{"code 1 1; 0:; back r0", [][]int{nil}},
		{"code 1 1", nil},
		// codes that are not valid: whatever stands there, a block leads to those in Next
		{"code 9 -1; 0:; go 0; 1:; go 0", [][]int{{0, 1}, nil}},
		{"code 0 0; 0:; if r7 0 1; 1:; go -1; 2:; go 3", [][]int{{0}, {0}, nil}},
		{"code 0 0; 0:; go 1 2 1 0 2 9 -1; 1:; if r0; 2:; if r0 2 2 2 1", [][]int{{0}, {0, 2}, {0, 2}}},
	} {
		code := unitOf(c.s).Codes[0]
		for b, want := range c.want {
			if got := impl.PredsOf(code, b); !slices.Equal(got, want) {
				t.Errorf("PredsOf block %d of %q is %v; want %v", b, c.s, got, want)
			}
		}
		for _, b := range []int{math.MinInt, -2, -1, len(c.want), len(c.want) + 1, 9, 160, math.MaxInt} {
			if got := impl.PredsOf(code, b); len(got) > 0 {
				t.Errorf("PredsOf block %d, which is none, of %q is %v", b, c.s, got)
			}
		}
		checkUnit(t, impl.Unit{Codes: []impl.Code{code}})
	}
	c := impl.Code{Blocks: []impl.Block{{Jump: 3, Next: []int{1, 1}}, {Jump: 77, Next: []int{0, 2, 5}}, {Next: []int{2}}}} // a Jump that has no Next
	for b, want := range [][]int{{1}, {0}, {1, 2}} {
		if got := impl.PredsOf(c, b); !slices.Equal(got, want) {
			t.Errorf("PredsOf(%v, %d) = %v; want %v", c, b, got, want)
		}
	}
	if got := impl.PredsOf(c, 5); len(got) > 0 {
		t.Errorf("PredsOf(%v, 5) = %v", c, got)
	}
}

func TestUsesOfAndMadeBy(t *testing.T) {
	for _, c := range []struct {
		args, want []int
	}{
		{nil, nil}, {[]int{}, nil}, {[]int{4}, []int{4}}, {[]int{4, 2}, []int{2, 4}}, {[]int{2, 4}, []int{2, 4}}, {[]int{3, 3}, []int{3}}, {[]int{5, 1, 5}, []int{1, 5}}, {[]int{1, 1, 1}, []int{1}}, {[]int{9, 3, 7, 3, 9, 0, 8}, []int{0, 3, 7, 8, 9}},
		{[]int{-1}, []int{-1}}, {[]int{0, -1, 0, -7, -1, 900}, []int{-7, -1, 0, 900}}, {[]int{math.MaxInt, math.MinInt, math.MaxInt}, []int{math.MinInt, math.MaxInt}},
	} {
		for _, o := range []int{-1, 0, 1, 2, 3, 12, 13, 14, 15, math.MinInt, math.MaxInt} {
			x := impl.Ins{Op: o, To: 8, Args: c.args, N: 9}
			before := slices.Clone(c.args)
			if got := impl.UsesOf(x); !slices.Equal(got, c.want) || !slices.Equal(c.args, before) || shareMemory(got, x) {
				t.Errorf("UsesOf(%v) = %v; want %v", x, got, c.want)
			}
		}
	}
	for o, makes := range map[int]bool{math.MinInt: false, -14: false, -1: false, 0: false, 1: true, 2: true, 3: true, 4: true, 5: true, 6: true, 7: true, 8: true, 9: true, 10: true, 11: true, 12: false, 13: false, 14: true, 15: false, 16: false, 300: false, 1<<32 + 1: false, math.MaxInt: false} {
		for _, to := range []int{math.MinInt, -2, -1, 0, 1, 7, 299, 300, math.MaxInt} {
			want := -1
			if makes {
				want = to
			}
			if got := impl.MadeBy(impl.Ins{Op: o, To: to, Args: []int{5}, N: 6}); got != want {
				t.Errorf("MadeBy of the Op %d with the To %d is %d", o, to, got)
			}
		}
	}
}

func TestTightUnits(t *testing.T) {
	for s, want := range map[string]string{
		"code 0 1; 0:; back r0": "code 0 1; 0:; back r0", "code 0 9; 0:; back r0": "code 0 1; 0:; back r0", "code 0 9; 0:; back r8": "code 0 1; 0:; back r0", "code 3 9; 0:; back r0": "code 3 3; 0:; back r0", "code 3 9; 0:; back r2": "code 3 3; 0:; back r2", "code 3 9; 0:; back r3": "code 3 4; 0:; back r3", "code 3 9; 0:; back r8": "code 3 4; 0:; back r3",
		"code 0 300; 0:; go 1; 1:; go 1": "code 0 0; 0:; go 1; 1:; go 1", "code 2 300; 0:; go 1; 1:; go 1": "code 2 2; 0:; go 1; 1:; go 1", "code 0 0; 0:; go 1; 1:; go 1": "code 0 0; 0:; go 1; 1:; go 1", "code 0 300; 0:; r299 = copy r0; back r299": "code 0 2; 0:; r0 = copy r1; back r0",
		// the To ahead of the Args, phis ahead of instructions, these ahead of the Jump, and blocks in their order
		"code 0 5; 0:; r4 = add r3 r2; back r1": "code 0 4; 0:; r0 = add r1 r2; back r3", "code 0 5; 0:; put r4 r3; say r2; back r1": "code 0 4; 0:; put r0 r1; say r2; back r3", "code 1 5; 0:; put r4 r0; say r4; back r2": "code 1 3; 0:; put r1 r0; say r1; back r2",
		"code 0 9; 0:; if r5 2 1; 1:; back r7; 2:; r6 = phi r8; r4 = num 7; back r2": "code 0 6; 0:; if r0 2 1; 1:; back r1; 2:; r2 = phi r3; r4 = num 7; back r5", "code 0 9; 0:; go 1; 1:; r4 = num 4; r2 = num 5; back r3; 2:; r1 = phi; r8 = phi; back r2": "code 0 5; 0:; go 1; 1:; r0 = num 4; r1 = num 5; back r2; 2:; r3 = phi; r4 = phi; back r1",
		"code 1 5; 0:; r3 = num 1; if r0 1 2; 1:; r4 = add r0 r3; go 2; 2:; r1 = phi r3 r4; back r1": "code 1 4; 0:; r1 = num 1; if r0 1 2; 1:; r2 = add r0 r1; go 2; 2:; r3 = phi r1 r2; back r3", "code 1 9; 0:; if r0 1 1; 1:; r8 = phi r7; r7 = phi r8; r0 = phi r1; back r1": "code 1 4; 0:; if r0 1 1; 1:; r1 = phi r2; r2 = phi r1; r0 = phi r3; back r3",
		// a Param keeps its number, wherever it stands, and the number of one that stands nowhere is left to it
		"code 2 6; 0:; r5 = num 0; back r1": "code 2 3; 0:; r2 = num 0; back r1", "code 3 6; 0:; r5 = copy r2; r0 = copy r4; back r5": "code 3 5; 0:; r3 = copy r2; r0 = copy r4; back r3", "code 1 3; 0:; r2 = num 0; back r2": "code 1 2; 0:; r1 = num 0; back r1", "code 3 3; 0:; r2 = add r1 r0; back r2": "code 3 3; 0:; r2 = add r1 r0; back r2",
		// neither a number nor a block nor a code is a register, and the On of a JumpGo is none
		"code 0 9; 0:; r5 = num 7; go 3; 1:; back r5; 2:; back r5; 3:; go 2": "code 0 1; 0:; r0 = num 7; go 3; 1:; back r0; 2:; back r0; 3:; go 2", "code 0 9; 0:; back r8; code 1 9; 0:; back r5; code 0 9; 0:; r7 = call 1 r4; r8 = call 0; back r4": "code 0 1; 0:; back r0; code 1 2; 0:; back r1; code 0 3; 0:; r0 = call 1 r1; r2 = call 0; back r1",
		// each code has registers of its own
		"code 0 9; 0:; r7 = num 0; back r3; code 1 9; 0:; r3 = copy r7; back r0": "code 0 2; 0:; r0 = num 0; back r1; code 1 3; 0:; r1 = copy r2; back r0",
	} {
		u := unitOf(s)
		got, ok := impl.TightUnit(u)
		if !ok || !equalUnits(got, unitOf(want)) {
			t.Errorf("TightUnit of %q is %q, %v; want %q", s, impl.UnitText(got), ok, want)
		}
		if impl.SameUnits(got, u) != (s == want) || !checkUnit(t, u) {
			t.Errorf("%q, of which TightUnit is %q", s, want)
		}
	}
	many := "code 3 300; 0:"
	for r := 299; r >= 0; r-- {
		many += fmt.Sprintf("; r%d = num %d", r, r%256)
	}
	got, ok := impl.TightUnit(unitOf(many + "; back r150"))
	if !ok || got.Codes[0].Regs != 300 || got.Codes[0].Blocks[0].Ins[0].To != 3 || got.Codes[0].Blocks[0].Ins[296].To != 299 || got.Codes[0].Blocks[0].On != 152 || got.Codes[0].Blocks[0].Ins[297].To != 2 {
		t.Errorf("TightUnit of all registers is %v, %v", got, ok)
	}
	checkUnit(t, unitOf(many+"; back r150"))
}

// wrongUnits are units that are not valid: 15 small ones, and then great ones.
func wrongUnits() []impl.Unit {
	units := []impl.Unit{{}, {Codes: []impl.Code{}}, {Codes: []impl.Code{{}}}, {Codes: make([]impl.Code, 5)}, {Codes: make([]impl.Code, 300000)}, {Codes: []impl.Code{{Regs: 1, Blocks: []impl.Block{{}}}}}, {Codes: []impl.Code{{Regs: 1, Blocks: make([]impl.Block, 161)}}}}
	for _, s := range []string{"code 0 0; 0:; back r0", "code 0 1; 0:; go 0", "code 0 1; 0:; back r0; code 4 5; 0:; back r0", "code 0 1; 0:; r0 = call 0; back r0", "code 0 1; 0:; say r1; back r0", "code 0 1; 0:; r0 = phi; back r0", "code 0 1; 0:; r0 = num 256; back r0", "code 0 1; 0:; go 1"} {
		units = append(units, unitOf(s))
	}
	great := make([]int, 1000000)
	for _, x := range []impl.Block{{Jump: 3, Ins: make([]impl.Ins, 1000000)}, {Jump: 3, Phis: make([]impl.Phi, 1000000)}, {Jump: 2, Next: great}, {Jump: 1, Next: great}, {Jump: 3, Next: great}, {Jump: 3, Ins: []impl.Ins{{Op: 3, Args: great}}}, {Jump: 3, Ins: []impl.Ins{{Op: 14, Args: great}}}, {Jump: 3, Phis: []impl.Phi{{Args: great}}}} {
		units = append(units, impl.Unit{Codes: []impl.Code{{Regs: 1, Blocks: []impl.Block{{Jump: 1, Next: []int{1}}, x}}}}, impl.Unit{Codes: slices.Repeat([]impl.Code{{Regs: 1, Blocks: slices.Repeat([]impl.Block{x}, 160)}}, 4)})
	}
	return units
}

// TestUnitsThatAreWrong has units that are not valid, of which each function returns what is told for them.
func TestUnitsThatAreWrong(t *testing.T) {
	for i, u := range wrongUnits() {
		if v, ok := impl.TightUnit(u); ok || len(v.Codes) > 0 || impl.UnitValid(u) || impl.InsCount(u) != -1 || impl.UnitText(u) != "" {
			t.Errorf("the unit %d, which is not valid, is turned to %v, %v", i, v, ok)
		}
		if i < 15 && checkUnit(t, u) {
			t.Errorf("the unit %d is valid", i)
		}
	}
}

func TestSameUnits(t *testing.T) {
	parts := []impl.Unit{
		{}, {Codes: []impl.Code{{}}}, {Codes: []impl.Code{{}, {}}}, {Codes: []impl.Code{{Params: 1}}}, {Codes: []impl.Code{{Params: -1}}}, {Codes: []impl.Code{{Regs: 1}}}, {Codes: []impl.Code{{Blocks: []impl.Block{{}}}}}, {Codes: []impl.Code{{Blocks: []impl.Block{{}, {}}}}}, {Codes: []impl.Code{{}, {Blocks: []impl.Block{{}}}}},
	}
	for _, x := range []impl.Block{
		{Jump: 1}, {Jump: 9}, {On: 1}, {On: -1}, {Next: []int{0}}, {Next: []int{1}}, {Next: []int{0, 0}}, {Next: []int{0, 1}}, {Next: []int{1, 0}}, {Phis: []impl.Phi{{}}}, {Phis: []impl.Phi{{}, {}}}, {Phis: []impl.Phi{{To: 1}}}, {Phis: []impl.Phi{{To: 1}, {}}}, {Phis: []impl.Phi{{}, {To: 1}}}, {Phis: []impl.Phi{{Args: []int{0}}}}, {Phis: []impl.Phi{{Args: []int{0, 0}}}}, {Phis: []impl.Phi{{Args: []int{0, 1}}}}, {Phis: []impl.Phi{{Args: []int{1, 0}}}}, {Phis: []impl.Phi{{Args: []int{-1}}}},
		{Ins: []impl.Ins{{}}}, {Ins: []impl.Ins{{}, {}}}, {Ins: []impl.Ins{{Op: 1}}}, {Ins: []impl.Ins{{Op: 1}, {}}}, {Ins: []impl.Ins{{}, {Op: 1}}}, {Ins: []impl.Ins{{Op: 77}}}, {Ins: []impl.Ins{{To: 1}}}, {Ins: []impl.Ins{{To: -1}}}, {Ins: []impl.Ins{{N: 1}}}, {Ins: []impl.Ins{{N: -5}}}, {Ins: []impl.Ins{{Args: []int{0}}}}, {Ins: []impl.Ins{{Args: []int{0, 0}}}}, {Ins: []impl.Ins{{Args: []int{2, 0}}}}, {Ins: []impl.Ins{{Args: []int{0, 2}}}}, {Ins: []impl.Ins{{To: 1, Args: []int{0}}}},
	} {
		parts = append(parts, impl.Unit{Codes: []impl.Code{{Blocks: []impl.Block{x}}}})
	}
	for i, u := range parts {
		for k, v := range parts {
			if impl.SameUnits(u, v) != (i == k) || impl.SameUnits(plainUnit(u), v) != (i == k) {
				t.Errorf("SameUnits(%v, %v) is %v", u, v, i != k)
			}
		}
		checkUnit(t, u)
	}
	bare := impl.Unit{Codes: []impl.Code{{}, {Blocks: []impl.Block{{}, {Phis: []impl.Phi{{}}, Ins: []impl.Ins{{}}}}}}}
	empty := impl.Unit{Codes: []impl.Code{{Blocks: []impl.Block{}}, {Blocks: []impl.Block{{Phis: []impl.Phi{}, Ins: []impl.Ins{}, Next: []int{}}, {Phis: []impl.Phi{{Args: []int{}}}, Ins: []impl.Ins{{Args: []int{}}}, Next: []int{}}}}}}
	if !impl.SameUnits(bare, empty) || !impl.SameUnits(empty, bare) || !impl.SameUnits(impl.Unit{}, impl.Unit{Codes: []impl.Code{}}) {
		t.Error("empty lists are not the same as nil")
	}
	if !impl.SameUnits(unitOf(allOps), unitOf(allOps)) || impl.SameUnits(unitOf(allOps), impl.Unit{Codes: unitOf(allOps).Codes[:3]}) || impl.SameUnits(impl.Unit{}, unitOf(allOps)) {
		t.Error("SameUnits of a unit with each Op")
	}
}

// spoilUnit writes to all lists of a unit, and behind them.
func spoilUnit(u impl.Unit) {
	ints := func(list []int) {
		for i := range list[:cap(list)] {
			list[:cap(list)][i] = -77
		}
	}
	for _, c := range u.Codes {
		for _, x := range c.Blocks {
			ints(x.Next)
			for _, y := range x.Phis {
				ints(y.Args)
			}
			for _, y := range x.Ins {
				ints(y.Args)
			}
			clear(x.Phis[:cap(x.Phis)])
			clear(x.Ins[:cap(x.Ins)])
		}
		clear(c.Blocks[:cap(c.Blocks)])
	}
	clear(u.Codes[:cap(u.Codes)])
}

func TestUnitResultsAreTheirOwn(t *testing.T) {
	for _, s := range []string{allOps, "code 0 1; 0:; back r0", "code 0 9; 0:; r5 = num 1; say r5; put r5 r5; if r5 1 1; 1:; r5 = phi r5; back r5", "code 0 9; 0:; go 1; 1:; go 1"} {
		u := unitOf(s)
		before := plainUnit(u)
		tight, _ := impl.TightUnit(u)
		again, _ := impl.TightUnit(u)
		want := plainUnit(tight)
		results := []any{u, tight, again}
		for _, c := range u.Codes {
			for b, x := range c.Blocks {
				results = append(results, impl.PredsOf(c, b), impl.PredsOf(c, b))
				for _, y := range x.Ins {
					results = append(results, impl.UsesOf(y), impl.UsesOf(y))
				}
			}
		}
		if shareMemory(results...) {
			t.Errorf("results of %q share memory", s)
		}
		for _, v := range results[3:] {
			list := v.([]int)
			for i := range list[:cap(list)] {
				list[:cap(list)][i] = -77
			}
		}
		spoilUnit(tight)
		if !equalUnits(u, before) || !equalUnits(again, want) {
			t.Errorf("what is written to a result of %q is seen elsewhere", s)
		}
		checkUnit(t, u)
	}
}

// TestUnitsOfSharedMemory has units of which lists are the same memory, and have more memory behind them, which is not to
// be read or written.
func TestUnitsOfSharedMemory(t *testing.T) {
	numbers := []int{2, 1, 2, 7, -9, 900}
	phis := []impl.Phi{{To: 7, Args: numbers[:1]}, {To: 2, Args: numbers[1:2]}, {To: 900, Args: numbers}}
	ins := []impl.Ins{{Op: 3, To: 7, Args: numbers[:2]}, {Op: 3, To: 2, Args: numbers[1:3]}, {Op: 12, To: -1, Args: numbers[2:4]}, {Op: 13, To: -1, Args: numbers[:1]}, {Op: 77, Args: numbers}}
	blocks := []impl.Block{{Ins: ins[:4], Jump: 1, Next: numbers[1:2]}, {Phis: phis[:2], Ins: ins[:3], Jump: 3, On: 6}, {Phis: phis[:0], Ins: ins[1:4], Jump: 2, On: 2, Next: numbers[2:3]}, {Jump: 88}}
	codes := []impl.Code{{Params: 1, Regs: 8, Blocks: blocks[:2]}, {Params: 2, Regs: 9, Blocks: blocks[:2]}, {Params: 3, Regs: 8, Blocks: blocks[:2]}, {Params: 0, Regs: 99, Blocks: blocks[:2]}, {Params: -1}}
	told := func() string { return fmt.Sprint(numbers, phis, ins, blocks, codes) }
	before := told()
	for n := range 6 {
		if checkUnit(t, impl.Unit{Codes: codes[:n]}) != (n >= 1 && n <= 4) {
			t.Errorf("the first %d codes are valid: %v", n, n < 1 || n > 4)
		}
	}
	for n := range 5 {
		c := impl.Code{Params: 1, Regs: 8, Blocks: blocks[:n]}
		if checkUnit(t, impl.Unit{Codes: []impl.Code{c}}) != (n == 2) {
			t.Errorf("a code of the first %d blocks is valid: %v", n, n != 2)
		}
	}
	for from := range numbers {
		for to := from; to <= len(numbers); to++ {
			checkIns(t, impl.Ins{Op: 3, To: 1, Args: numbers[from:to]})
		}
	}
	if after := told(); after != before {
		t.Errorf("what was given became %s", after)
	}
}
