package tests

import (
	"fmt"
	"math"
	"math/rand"
	"slices"
	"strings"
	"testing"

	"loop.example/wholeway/impl"
)

// The graph of the document's chapter 10, told a second time and in another way than the program tells it: blocks are visited by
// recursion, edges are looked for among all pairs of blocks, and units are turned as blocks that hold each other by pointers.

// wantFits tells whether a code has blocks, and each Next is one of them.
func wantFits(c impl.Code) bool {
	known := map[int]bool{}
	for b := range c.Blocks {
		known[b] = true
	}
	for _, x := range c.Blocks {
		for _, n := range x.Next {
			if !known[n] {
				return false
			}
		}
	}
	return len(known) > 0
}

// wantReached are the blocks to which the first one leads: more and more of them, until none is added.
func wantReached(c impl.Code) []int {
	if !wantFits(c) {
		return nil
	}
	reached := map[int]bool{0: true}
	for before := 0; before < len(reached); {
		before = len(reached)
		for b, x := range c.Blocks {
			for _, n := range x.Next {
				if reached[b] {
					reached[n] = true
				}
			}
		}
	}
	var list []int
	for b := range c.Blocks {
		if reached[b] {
			list = append(list, b)
		}
	}
	return list
}

// wantOrder is what OrderIn should return.
func wantOrder(c impl.Code) []int {
	if !wantFits(c) {
		return nil
	}
	var order []int
	visited := map[int]bool{}
	var visitBlock func(b int)
	visitBlock = func(b int) {
		visited[b] = true
		for _, n := range c.Blocks[b].Next {
			if !visited[n] {
				visitBlock(n)
			}
		}
		order = append([]int{b}, order...)
	}
	visitBlock(0)
	return order
}

// wantBack is what BackEdges should return.
func wantBack(c impl.Code) [][]int {
	var pairs [][]int
	order := wantOrder(c)
	for a := range c.Blocks {
		for b := range c.Blocks {
			from, to := slices.Index(order, a), slices.Index(order, b)
			if from >= 0 && to >= 0 && to <= from && slices.Contains(c.Blocks[a].Next, b) {
				pairs = append(pairs, []int{a, b})
			}
		}
	}
	return pairs
}

// wantSharp tells whether an edge of a code that fits is sharp.
func wantSharp(c impl.Code, from int, to int) bool {
	different := map[int]bool{}
	for _, n := range c.Blocks[from].Next {
		different[n] = true
	}
	return different[to] && len(different) > 1 && len(wantPreds(c)[to]) > 1
}

// wantHasSharp is what HasSharp should return.
func wantHasSharp(c impl.Code) bool {
	for b, x := range c.Blocks {
		for _, n := range x.Next {
			if wantFits(c) && wantSharp(c, b, n) {
				return true
			}
		}
	}
	return false
}

// graphNode is a block of a valid code that holds those to which it leads. Its phis have the Args by the blocks from which one
// comes.
type graphNode struct {
	block impl.Block
	phis  []map[*graphNode]int
	next  []*graphNode
}

// nodesOf are the blocks of a valid code.
func nodesOf(c impl.Code) []*graphNode {
	var nodes []*graphNode
	for _, x := range plainCode(c).Blocks {
		nodes = append(nodes, &graphNode{block: x})
	}
	for b, preds := range wantPreds(c) {
		for _, phi := range nodes[b].block.Phis {
			args := map[*graphNode]int{}
			for i, pred := range preds {
				args[nodes[pred]] = phi.Args[i]
			}
			nodes[b].phis = append(nodes[b].phis, args)
		}
		for _, n := range nodes[b].block.Next {
			nodes[b].next = append(nodes[b].next, nodes[n])
		}
	}
	return nodes
}

// withNodes is a code that has these blocks in place of its own ones.
func withNodes(c impl.Code, nodes []*graphNode) impl.Code {
	c.Blocks = nil
	for _, node := range nodes {
		x := node.block
		x.Next = nil
		for _, next := range node.next {
			x.Next = append(x.Next, slices.Index(nodes, next))
		}
		x.Phis = nil
		for i, args := range node.phis {
			phi := impl.Phi{To: node.block.Phis[i].To}
			for _, pred := range nodes {
				if slices.Contains(pred.next, node) {
					phi.Args = append(phi.Args, args[pred])
				}
			}
			x.Phis = append(x.Phis, phi)
		}
		c.Blocks = append(c.Blocks, x)
	}
	return c
}

// wantPlaced is a valid code with some blocks alone.
func wantPlaced(c impl.Code, list []int) impl.Code {
	all := nodesOf(c)
	var nodes []*graphNode
	for _, b := range list {
		nodes = append(nodes, all[b])
	}
	return withNodes(c, nodes)
}

// wantSplit is a valid code with a new block on each sharp edge, which may be too many.
func wantSplit(c impl.Code) impl.Code {
	nodes := nodesOf(c)
	for b, x := range c.Blocks {
		for i, n := range x.Next {
			if !wantSharp(c, b, n) {
				continue
			}
			between := &graphNode{block: impl.Block{Jump: 1}, next: []*graphNode{nodes[n]}}
			for _, args := range nodes[n].phis {
				args[between] = args[nodes[b]]
			}
			nodes[b].next[i] = between
			nodes = append(nodes, between)
		}
	}
	return withNodes(c, nodes)
}

// graphTurn is one of the functions that turn units, with what it should make of a valid code.
type graphTurn struct {
	name string
	turn func(u impl.Unit) (impl.Unit, bool)
	want func(c impl.Code) impl.Code
}

var graphTurns = []graphTurn{
	{"DropUnreached", impl.DropUnreached, func(c impl.Code) impl.Code { return wantPlaced(c, wantReached(c)) }},
	{"OrderUnit", impl.OrderUnit, func(c impl.Code) impl.Code { return wantPlaced(c, wantOrder(c)) }},
	{"SplitEdges", impl.SplitEdges, wantSplit},
}

// wantUnit is what the function should return of a unit, valid or not.
func (g graphTurn) wantUnit(u impl.Unit) (impl.Unit, bool) {
	if wantInsCount(u) < 0 {
		return impl.Unit{}, false
	}
	var codes []impl.Code
	for _, c := range u.Codes {
		codes = append(codes, g.want(c))
	}
	if wantInsCount(impl.Unit{Codes: codes}) < 0 {
		return impl.Unit{}, false
	}
	return impl.Unit{Codes: codes}, true
}

// checkGraph compares what the program tells of the blocks of a code, whatever it is, with what it should tell.
func checkGraph(t *testing.T, c impl.Code) {
	t.Helper()
	reached, order, back := impl.ReachedIn(c), impl.OrderIn(c), impl.BackEdges(c)
	if want := wantReached(c); !slices.Equal(reached, want) {
		t.Fatalf("ReachedIn(%v) = %v; want %v", c, reached, want)
	}
	if want := wantOrder(c); !slices.Equal(order, want) {
		t.Fatalf("OrderIn(%v) = %v; want %v", c, order, want)
	}
	if want := wantBack(c); !slices.EqualFunc(back, want, slices.Equal) {
		t.Fatalf("BackEdges(%v) = %v; want %v", c, back, want)
	}
	if got := impl.HasSharp(c); got != wantHasSharp(c) {
		t.Fatalf("HasSharp(%v) is %v", c, got)
	}
	if sharesWith(c, reached, order, back) {
		t.Fatalf("what is told of %v shares memory: %v, %v, %v", c, reached, order, back)
	}
}

// turnsDone counts how often a function has turned a unit to another one, turned it to itself, and returned false.
var turnsDone = map[string]int{}

// checkGraphs compares what the program tells of the blocks of a unit, valid or not, and the units to which it turns it, with what
// it should tell, and checks promise 10 on it, on runs of so many steps. It reports whether it is valid.
func checkGraphs(t *testing.T, u impl.Unit, steps int) bool {
	t.Helper()
	before := plainUnit(u)
	for _, c := range u.Codes {
		checkGraph(t, c)
	}
	for _, g := range graphTurns {
		want, wantOk := g.wantUnit(u)
		got, ok := g.turn(u)
		if ok != wantOk || !equalUnits(got, want) {
			t.Fatalf("%s(%v) = %v, %v; want %v, %v", g.name, u, got, ok, want, wantOk)
		}
		if !ok {
			turnsDone[g.name+" is false"]++
			continue
		}
		if again, ok := g.turn(got); !ok || !equalUnits(again, got) || sharesWith([]any{u, got}, again) {
			t.Fatalf("%s of %v, done again, is %v, %v", g.name, got, again, ok)
		}
		if !impl.UnitValid(got) || sharesWith(u, got) || len(got.Codes) != len(u.Codes) {
			t.Fatalf("%s(%v) = %v, which is not valid, or shares memory", g.name, u, got)
		}
		for k, c := range got.Codes {
			checkTurned(t, g.name, u.Codes[k], c)
		}
		if equalUnits(got, u) {
			turnsDone[g.name+" changes nothing"]++
		} else {
			turnsDone[g.name+" changes"]++
			checkGraphRuns(t, g.name, u, got, steps)
		}
	}
	if !equalUnits(u, before) {
		t.Fatalf("%v became %v", before, u)
	}
	return wantInsCount(u) >= 0
}

// checkTurned checks what is promised of the blocks of a code that a function has turned.
func checkTurned(t *testing.T, name string, c impl.Code, turned impl.Code) {
	t.Helper()
	reached := impl.ReachedIn(turned)
	if name != "SplitEdges" && (len(reached) != len(turned.Blocks) || len(reached) != len(impl.ReachedIn(c))) {
		t.Fatalf("behind %s, %v of %v are reached", name, reached, turned)
	}
	if name == "SplitEdges" && (impl.HasSharp(turned) || len(turned.Blocks) < len(c.Blocks) || impl.HasSharp(c) == (len(turned.Blocks) == len(c.Blocks))) {
		t.Fatalf("behind %s, %v has sharp edges, or too few or many blocks", name, turned)
	}
	if name != "OrderUnit" {
		return
	}
	var back [][]int
	for b, x := range turned.Blocks {
		if reached[b] != b || impl.OrderIn(turned)[b] != b {
			t.Fatalf("behind %s, the order of %v is %v", name, turned, impl.OrderIn(turned))
		}
		next := slices.Clone(x.Next)
		slices.Sort(next)
		for _, n := range slices.Compact(next) {
			if n <= b {
				back = append(back, []int{b, n})
			}
		}
	}
	if !slices.EqualFunc(impl.BackEdges(turned), back, slices.Equal) {
		t.Fatalf("behind %s, the edges back of %v are %v; want %v", name, turned, impl.BackEdges(turned), back)
	}
}

// graphEnds counts how the runs end that are held against each other.
var graphEnds = map[int]int{}

// checkGraphRuns checks that a valid unit and what a function has made of it run to the same outcome, over the same blocks. A new
// block of SplitEdges takes a step for its Jump, behind one that the Jump ahead of it takes; so twice the steps are enough.
func checkGraphRuns(t *testing.T, name string, u impl.Unit, turned impl.Unit, steps int) {
	t.Helper()
	n := u.Codes[len(u.Codes)-1].Params
	for _, in := range append(impl.NumbersFor(u), []int{5, 16, 2}[:n], []int{180, 1, 9}[:n]) {
		more := steps
		if name == "SplitEdges" {
			more = 2 * steps
		}
		o, ok := impl.RunUnit(u, in, steps)
		v, okTurned := impl.RunUnit(turned, in, more)
		trace := oldBlocks(name, u.Codes[len(u.Codes)-1], impl.TraceOf(turned, in, more))
		if !ok || !okTurned {
			t.Fatalf("%v or %v is not run with %v", u, turned, in)
		}
		graphEnds[o.End]++
		if o.End == 3 && name == "SplitEdges" { // it may have come further, or not even so far
			said := min(len(o.Said), len(v.Said))
			if !slices.Equal(o.Said[:said], v.Said[:said]) {
				t.Fatalf("%v with %v tells %v; behind %s %v", u, in, o, name, v)
			}
			continue
		}
		if !equalOutcomes(o, v) || !slices.Equal(trace, impl.TraceOf(u, in, steps)) {
			t.Fatalf("%v with %v tells %v over %v; behind %s %v over %v", u, in, o, impl.TraceOf(u, in, steps), name, v, trace)
		}
		if o.End != 3 && name != "SplitEdges" && impl.StepsOf(turned, in) != impl.StepsOf(u, in) {
			t.Fatalf("%v with %v takes other steps behind %s", u, in, name)
		}
	}
}

// oldBlocks are the blocks of a code to which a run came when a function had turned it, but for those that are new.
func oldBlocks(name string, c impl.Code, trace []int) []int {
	list := impl.ReachedIn(c)
	switch name {
	case "OrderUnit":
		list = impl.OrderIn(c)
	case "SplitEdges":
		list = nil
		for b := range c.Blocks {
			list = append(list, b)
		}
	}
	var old []int
	for _, b := range trace {
		if b < len(list) {
			old = append(old, list[b])
		}
	}
	return old
}

// waysOf is a code of which all Next are told, with `;` between blocks and `-` where there is none. Its registers and instructions
// are wrong, as the functions that take a code do not read them.
func waysOf(s string) impl.Code {
	c := impl.Code{Params: -7, Regs: -1}
	for i, words := range strings.Split(s, ";") {
		x := impl.Block{Jump: 90 - i, On: -5, Phis: []impl.Phi{{To: -3, Args: []int{7}}}, Ins: []impl.Ins{{Op: 99, To: 4000}}}
		if strings.TrimSpace(words) != "-" {
			x.Next = numbersOf(strings.Fields(words))
		}
		c.Blocks = append(c.Blocks, x)
	}
	return c
}

// graphCase is what is told of a code by hand; pairs have a `>` between.
type graphCase struct {
	ways, reached, order, back string
	sharp                      bool
}

func checkGraphCases(t *testing.T, list []graphCase) {
	t.Helper()
	for _, want := range list {
		c := waysOf(want.ways)
		back := ""
		for _, pair := range impl.BackEdges(c) {
			back += fmt.Sprintf(" %d>%d", pair[0], pair[1])
		}
		got := graphCase{want.ways, intWords(impl.ReachedIn(c)), intWords(impl.OrderIn(c)), strings.TrimSpace(back), impl.HasSharp(c)}
		if got != want {
			t.Errorf("of the code is told %+v; want %+v", got, want)
		}
		checkGraph(t, c)
	}
}

func TestGraphOrders(t *testing.T) {
	checkGraphCases(t, []graphCase{
		{"-", "0", "0", "", false}, {"-;-;-", "0", "0", "", false}, {"1;-", "0 1", "0 1", "", false}, {"3;-;1;2", "0 1 2 3", "0 3 2 1", "", false}, {"2;-;-", "0 2", "0 2", "", false}, {"2;-;1", "0 1 2", "0 2 1", "", false},
		{"1;2 3;1;-", "0 1 2 3", "0 1 3 2", "2>1", false}, {"1;3 2;1;-", "0 1 2 3", "0 1 2 3", "2>1", false}, {"1;2 3;1;-;-", "0 1 2 3", "0 1 3 2", "2>1", false},
		{"1 2;-;-", "0 1 2", "0 2 1", "", false}, {"2 1;-;-", "0 1 2", "0 1 2", "", false}, {"1 2;3;3;-", "0 1 2 3", "0 2 1 3", "", false}, {"2 1;3;3;-", "0 1 2 3", "0 1 2 3", "", false}, {"1 2;3;1;-", "0 1 2 3", "0 2 1 3", "", true}, {"1 2;2;-", "0 1 2", "0 1 2", "", true}, {"2 1;2;-", "0 1 2", "0 1 2", "", true},
		{"1;2 5;3;3 4;2 1;-", "0 1 2 3 4 5", "0 1 5 2 3 4", "3>3 4>1 4>2", true}, {"1;5 2;3;4 3;1 2;-", "0 1 2 3 4 5", "0 1 2 3 4 5", "3>3 4>1 4>2", true}, // loops in loops
		{"1;2 6;3 5;4;2;1;-", "0 1 2 3 4 5 6", "0 1 6 2 5 3 4", "4>2 5>1", true}, {"1;2;1 3;4;3 5;-", "0 1 2 3 4 5", "0 1 2 3 4 5", "2>1 4>3", true},
		{"1 2;2;1", "0 1 2", "0 1 2", "2>1", true}, {"2 1;2;1", "0 1 2", "0 2 1", "1>2", true}, {"1 2;2 3;1 3;-", "0 1 2 3", "0 1 2 3", "2>1", true}, {"2 1;2 3;1 3;-", "0 1 2 3", "0 2 1 3", "1>2", true}, // ways round with two entries
	})
}

func TestGraphOfWaysToThemselves(t *testing.T) {
	checkGraphCases(t, []graphCase{
		{"1;1", "0 1", "0 1", "1>1", false}, {"1;1 2;-", "0 1 2", "0 1 2", "1>1", true}, {"1;2 1;-", "0 1 2", "0 1 2", "1>1", true}, {"1;1 1", "0 1", "0 1", "1>1", false}, {"1 1;1 1", "0 1", "0 1", "1>1", false}, {"1;1 2;2", "0 1 2", "0 1 2", "1>1 2>2", true},
		{"1 1;-", "0 1", "0 1", "", false}, {"1 1;2;1", "0 1 2", "0 1 2", "2>1", false}, {"1 2;3 3;3;-", "0 1 2 3", "0 2 1 3", "", false}, {"1 2;2 1;1 2", "0 1 2", "0 1 2", "1>1 2>1 2>2", true}, {"2 1;2 1;1 2", "0 1 2", "0 2 1", "1>1 1>2 2>2", true},
		// the block 0, to which none of a valid unit leads
		{"0", "0", "0", "0>0", false}, {"1;0", "0 1", "0 1", "1>0", false}, {"0 0", "0", "0", "0>0", false}, {"1 0;0 1", "0 1", "0 1", "0>0 1>0 1>1", true}, {"0 1;-", "0 1", "0 1", "0>0", false}, {"1;0 2;-", "0 1 2", "0 1 2", "1>0", false}, {"1;0 2;0", "0 1 2", "0 1 2", "1>0 2>0", true}, {"-;0", "0", "0", "", false}, {"1;-;0 1;0", "0 1", "0 1", "", true},
		// blocks that are not reached
		{"1;-;1;3;4 1", "0 1", "0 1", "", true}, {"1 2;-;-;1", "0 1 2", "0 2 1", "", true}, {"1 2;-;-;-", "0 1 2", "0 2 1", "", false}, {"1 2;-;-;3 1", "0 1 2", "0 2 1", "", true}, {"1;-;2 3;2 3", "0 1", "0 1", "", true}, {"1;-;2 3;-", "0 1", "0 1", "", false}, {"1;-;3;2", "0 1", "0 1", "", false}, {"-;2;1", "0", "0", "", false}, {"-;1", "0", "0", "", false}, {"1 2;-;-;1 1;-", "0 1 2", "0 2 1", "", true},
		// more than two Next
		{"1 2 3;-;-;-", "0 1 2 3", "0 3 2 1", "", false}, {"3 1 2;-;-;-", "0 1 2 3", "0 2 1 3", "", false}, {"3 1 3 2 3 1;3;3;-", "0 1 2 3", "0 2 1 3", "", true}, {"1 1 1;-", "0 1", "0 1", "", false}, {"1 1 1;2;1", "0 1 2", "0 1 2", "2>1", false}, {"1 1 2;-;1", "0 1 2", "0 2 1", "", true}, {"1 1 2;1;-", "0 1 2", "0 2 1", "1>1", true}, {"1 1 1 2;-;-", "0 1 2", "0 2 1", "", false}, {"1;1 1 1 1", "0 1", "0 1", "1>1", false}, {"1;2 1 0 2 1 0 2;-", "0 1 2", "0 1 2", "1>0 1>1", true},
	})
}

func TestGraphOfWrongCodes(t *testing.T) {
	none := graphCase{}
	for _, s := range []string{"-1", "1", "2", "0 1", "1 0", "0 -1", "1;2", "1;-1", "1;0 2", "1 1 1 1 2;-", "-;2", "-;-1", "-;-;3", "-;-;0 3", "1;1;1;4 1", "1;-;-3", "1;2;3;4;5", "1 2;2 1", "300;-", fmt.Sprintf("1;%d", math.MaxInt), fmt.Sprintf("1;%d", math.MinInt), fmt.Sprintf("-;%d", math.MaxInt), fmt.Sprintf("-;%d", math.MinInt), fmt.Sprintf("1;1 0 1 %d", 1<<32+1), fmt.Sprintf("1;%d;1", -1<<32)} {
		none.ways = s
		checkGraphCases(t, []graphCase{none})
	}
	for _, c := range []impl.Code{{}, {Blocks: []impl.Block{}}, {Params: 3, Regs: 9}, {Regs: 300, Blocks: make([]impl.Block, 1)[:0]}} {
		if len(impl.ReachedIn(c))+len(impl.OrderIn(c))+len(impl.BackEdges(c)) > 0 || impl.HasSharp(c) {
			t.Errorf("of %v, which has no blocks, something is told", c)
		}
		checkGraph(t, c)
	}
	for i, u := range wrongUnits()[:15] {
		if checkGraphs(t, u, 100) {
			t.Errorf("the unit %d is valid", i)
		}
	}
}

// TestGraphOfGreatCodes has codes with more blocks and more Next than those of units have.
func TestGraphOfGreatCodes(t *testing.T) {
	const n = 300000
	chain, ring, comb := make([]impl.Block, n), make([]impl.Block, n), make([]impl.Block, n)
	for b := range n {
		chain[b].Next = []int{b + 1}
		ring[b].Next = []int{(b + 1) % n, (b + n - 1) % n}
		comb[b].Next = []int{n - 1, (b + 1) % n, b}
	}
	chain[n-1].Next = nil
	for i, blocks := range [][]impl.Block{chain, ring, comb} {
		c := impl.Code{Blocks: blocks}
		reached, order, back := impl.ReachedIn(c), impl.OrderIn(c), impl.BackEdges(c)
		if len(reached) != n || len(order) != n || reached[7] != 7 || order[0] != 0 || impl.HasSharp(c) != (i > 0) {
			t.Errorf("of the great code %d is told %.40v, %.40v", i, reached, order)
		}
		if want := []int{0, n, n + 1}[i]; len(back) != want {
			t.Errorf("the great code %d has %d edges back; want %d", i, len(back), want)
		}
	}
	great := make([]int, 1000000)
	for i := range great {
		great[i] = 1 + i%2
	}
	c := impl.Code{Blocks: []impl.Block{{Next: great}, {Next: great}, {}}}
	if order, back := impl.OrderIn(c), impl.BackEdges(c); !slices.Equal(order, []int{0, 1, 2}) || len(back) != 1 || back[0][0] != 1 || back[0][1] != 1 || !impl.HasSharp(c) {
		t.Errorf("of a code with great Next is told %v, %v", order, back)
	}
	great[len(great)-1] = 3
	if len(impl.ReachedIn(c))+len(impl.OrderIn(c))+len(impl.BackEdges(c)) > 0 || impl.HasSharp(c) {
		t.Error("of a code with a wrong Next at the end of many something is told")
	}
}

// graphTurnCase is a unit with what the functions make of it, told by hand; the unit itself where that is empty.
type graphTurnCase struct{ s, drop, order, split string }

func checkGraphTurns(t *testing.T, list []graphTurnCase) {
	t.Helper()
	for _, c := range list {
		u := unitOf(c.s)
		for i, want := range []string{c.drop, c.order, c.split} {
			if want == "" {
				want = c.s
			}
			got, ok := graphTurns[i].turn(u)
			if text := impl.UnitText(got); !ok || text != impl.UnitText(unitOf(want)) || text == "" {
				t.Errorf("%s of %q is %q, %v; want %q", graphTurns[i].name, c.s, text, ok, want)
			}
		}
		if !checkGraphs(t, u, 30000) {
			t.Errorf("%q is not valid", c.s)
		}
	}
}

func TestGraphTurns(t *testing.T) {
	one := "code 0 1; 0:; back r0"
	checkGraphTurns(t, []graphTurnCase{
		{s: one}, {s: one + ";" + one + ";" + one + ";" + one}, {s: "code 3 300; 0:; r299 = num 7; back r299"}, {s: "code 0 0; 0:; go 1; 1:; go 1"}, {s: "code 1 1; 0:; if r0 1 1; 1:; if r0 1 1"},
		{"code 0 1; 0:; back r0; 1:; back r0", one, one, ""}, {"code 0 1; 0:; back r0; 1:; r0 = phi; go 2; 2:; r0 = phi r0; go 3; 3:; r0 = phi r0 r0; r0 = phi r0 r0; go 3", one, one, ""},
		{"code 1 2; 0:; go 2; 1:; say r0; back r0; 2:; r1 = num 3; back r1", "code 1 2; 0:; go 1; 1:; r1 = num 3; back r1", "code 1 2; 0:; go 1; 1:; r1 = num 3; back r1", ""},
		{"code 1 2; 0:; go 2; 1:; say r1; back r0; 2:; r1 = num 3; go 1", "", "code 1 2; 0:; go 1; 1:; r1 = num 3; go 2; 2:; say r1; back r0", ""},
		{"code 1 1; 0:; go 1; 1:; if r0 2 3; 2:; go 1; 3:; back r0", "", "code 1 1; 0:; go 1; 1:; if r0 3 2; 2:; back r0; 3:; go 1", ""},
		{"code 1 1; 0:; if r0 3 4; 1:; back r0; 2:; go 1; 3:; say r0; go 4; 4:; go 5; 5:; back r0; 6:; go 5", "code 1 1; 0:; if r0 1 2; 1:; say r0; go 2; 2:; go 3; 3:; back r0", "code 1 1; 0:; if r0 1 2; 1:; say r0; go 2; 2:; go 3; 3:; back r0", "code 1 1; 0:; if r0 3 7; 1:; back r0; 2:; go 1; 3:; say r0; go 4; 4:; go 5; 5:; back r0; 6:; go 5; 7:; go 4"},
		// each code has blocks of its own
		{"code 1 2; 0:; if r0 2 1; 1:; back r0; 2:; r1 = num 9; back r1; 3:; back r0; code 1 2; 0:; go 2; 1:; back r1; 2:; r1 = call 0 r0; go 1", "code 1 2; 0:; if r0 2 1; 1:; back r0; 2:; r1 = num 9; back r1; code 1 2; 0:; go 2; 1:; back r1; 2:; r1 = call 0 r0; go 1", "code 1 2; 0:; if r0 2 1; 1:; back r0; 2:; r1 = num 9; back r1; code 1 2; 0:; go 1; 1:; r1 = call 0 r0; go 2; 2:; back r1", ""},
		{"code 2 2; 0:; if r0 1 2; 1:; go 2; 2:; back r1; code 2 2; 0:; go 1; 1:; if r0 1 2; 2:; back r1; 3:; back r0; code 2 3; 0:; go 2; 1:; if r0 2 1; 2:; r2 = call 0 r0 r1; back r2", "code 2 2; 0:; if r0 1 2; 1:; go 2; 2:; back r1; code 2 2; 0:; go 1; 1:; if r0 1 2; 2:; back r1; code 2 3; 0:; go 1; 1:; r2 = call 0 r0 r1; back r2", "code 2 2; 0:; if r0 1 2; 1:; go 2; 2:; back r1; code 2 2; 0:; go 1; 1:; if r0 1 2; 2:; back r1; code 2 3; 0:; go 1; 1:; r2 = call 0 r0 r1; back r2", "code 2 2; 0:; if r0 1 3; 1:; go 2; 2:; back r1; 3:; go 2; code 2 2; 0:; go 1; 1:; if r0 4 2; 2:; back r1; 3:; back r0; 4:; go 1; code 2 3; 0:; go 2; 1:; if r0 3 1; 2:; r2 = call 0 r0 r1; back r2; 3:; go 2"},
	})
}

func TestGraphTurnsOfPhis(t *testing.T) {
	checkGraphTurns(t, []graphTurnCase{
		{s: "code 1 4; 0:; go 1; 1:; r1 = phi r0; r2 = phi r3; back r1"}, {s: "code 1 4; 0:; if r0 1 1; 1:; r1 = phi r0; back r1"},
		// what is not reached takes its Args along
		{"code 1 5; 0:; go 2; 1:; r4 = num 4; go 2; 2:; r1 = phi r0 r4; back r1", "code 1 5; 0:; go 1; 1:; r1 = phi r0; back r1", "code 1 5; 0:; go 1; 1:; r1 = phi r0; back r1", ""},
		{"code 1 5; 0:; go 3; 1:; go 3; 2:; go 3; 3:; r1 = phi r0 r2 r3 r4; r2 = phi r4 r3 r2 r0; if r1 3 4; 4:; r3 = phi r1 r4; back r3; 5:; go 4", "code 1 5; 0:; go 1; 1:; r1 = phi r0 r4; r2 = phi r4 r0; if r1 1 2; 2:; r3 = phi r1; back r3", "code 1 5; 0:; go 1; 1:; r1 = phi r0 r4; r2 = phi r4 r0; if r1 1 2; 2:; r3 = phi r1; back r3", "code 1 5; 0:; go 3; 1:; go 3; 2:; go 3; 3:; r1 = phi r0 r2 r3 r4; r2 = phi r4 r3 r2 r0; if r1 6 7; 4:; r3 = phi r4 r1; back r3; 5:; go 4; 6:; go 3; 7:; go 4"},
		// the new order turns predecessors
		{"code 1 4; 0:; if r0 1 2; 1:; r2 = num 2; go 3; 2:; r3 = num 3; go 3; 3:; r1 = phi r2 r3; say r1; back r1", "", "code 1 4; 0:; if r0 2 1; 1:; r3 = num 3; go 3; 2:; r2 = num 2; go 3; 3:; r1 = phi r3 r2; say r1; back r1", ""},
		{"code 1 6; 0:; r2 = num 2; r3 = num 3; r4 = num 4; if r0 1 2; 1:; if r0 3 4; 2:; go 5; 3:; go 5; 4:; go 5; 5:; r1 = phi r2 r3 r4; r5 = phi r4 r2 r3; say r1; say r5; back r1", "", "code 1 6; 0:; r2 = num 2; r3 = num 3; r4 = num 4; if r0 2 1; 1:; go 5; 2:; if r0 4 3; 3:; go 5; 4:; go 5; 5:; r1 = phi r2 r4 r3; r5 = phi r4 r3 r2; say r1; say r5; back r1", ""},
		{"code 1 5; 0:; r4 = num 4; go 3; 1:; r3 = num 1; r0 = sub r0 r3; go 3; 2:; back r2; 3:; r1 = phi r4 r0; r2 = phi r3 r1; say r1; if r0 1 2", "", "code 1 5; 0:; r4 = num 4; go 1; 1:; r1 = phi r4 r0; r2 = phi r3 r1; say r1; if r0 3 2; 2:; back r2; 3:; r3 = num 1; r0 = sub r0 r3; go 1", ""},
		{"code 1 5; 0:; go 4; 1:; r1 = phi r2 r3 r4; back r1; 2:; go 1; 3:; r2 = num 7; go 1; 4:; r4 = copy r0; if r0 1 3", "code 1 5; 0:; go 3; 1:; r1 = phi r3 r4; back r1; 2:; r2 = num 7; go 1; 3:; r4 = copy r0; if r0 1 2", "code 1 5; 0:; go 1; 1:; r4 = copy r0; if r0 3 2; 2:; r2 = num 7; go 3; 3:; r1 = phi r4 r3; back r1", "code 1 5; 0:; go 4; 1:; r1 = phi r2 r3 r4; back r1; 2:; go 1; 3:; r2 = num 7; go 1; 4:; r4 = copy r0; if r0 5 3; 5:; go 1"},
	})
}

func TestGraphSplits(t *testing.T) {
	checkGraphTurns(t, []graphTurnCase{
		// a block that leads to itself, and the way back of a loop
		{s: "code 1 3; 0:; go 1; 1:; r1 = phi r0 r2; if r1 1 2; 2:; back r1", split: "code 1 3; 0:; go 1; 1:; r1 = phi r0 r2; if r1 3 2; 2:; back r1; 3:; go 1"},
		{s: "code 1 3; 0:; go 1; 1:; r1 = phi r0 r2; if r1 2 1; 2:; back r1", split: "code 1 3; 0:; go 1; 1:; r1 = phi r0 r2; if r1 2 3; 2:; back r1; 3:; go 1"},
		{s: "code 1 3; 0:; go 1; 1:; r1 = phi r0 r1; go 2; 2:; r2 = phi r1; r1 = not r2; if r2 3 1; 3:; back r1", order: "code 1 3; 0:; go 1; 1:; r1 = phi r0 r1; go 2; 2:; r2 = phi r1; r1 = not r2; if r2 3 1; 3:; back r1", split: "code 1 3; 0:; go 1; 1:; r1 = phi r0 r1; go 2; 2:; r2 = phi r1; r1 = not r2; if r2 3 4; 3:; back r1; 4:; go 1"},
		// the new predecessor stands behind the others
		{s: "code 1 4; 0:; if r0 1 2; 1:; r3 = num 3; go 2; 2:; r1 = phi r2 r3; r2 = phi r3 r2; say r2; back r1", split: "code 1 4; 0:; if r0 1 3; 1:; r3 = num 3; go 2; 2:; r1 = phi r3 r2; r2 = phi r2 r3; say r2; back r1; 3:; go 2"},
		{s: "code 1 5; 0:; if r0 1 4; 1:; go 4; 2:; if r0 3 4; 3:; go 4; 4:; r1 = phi r1 r2 r3 r4; back r1", drop: "code 1 5; 0:; if r0 1 2; 1:; go 2; 2:; r1 = phi r1 r2; back r1", order: "code 1 5; 0:; if r0 1 2; 1:; go 2; 2:; r1 = phi r1 r2; back r1", split: "code 1 5; 0:; if r0 1 5; 1:; go 4; 2:; if r0 3 6; 3:; go 4; 4:; r1 = phi r2 r4 r1 r3; back r1; 5:; go 4; 6:; go 4"},
		// the numbers of new blocks: of the blocks from which the edges come, and of their Next
		{s: "code 1 9; 0:; if r0 1 2; 1:; r1 = phi r2 r3 r8; if r0 2 1; 2:; r4 = phi r5 r6 r7; if r0 2 1", split: "code 1 9; 0:; if r0 3 4; 1:; r1 = phi r2 r3 r8; if r0 5 6; 2:; r4 = phi r5 r6 r7; if r0 7 8; 3:; go 1; 4:; go 2; 5:; go 2; 6:; go 1; 7:; go 2; 8:; go 1"},
		{s: "code 1 3; 0:; if r0 2 1; 1:; if r0 3 2; 2:; r1 = phi r0 r1; if r1 1 3; 3:; r2 = phi r1 r2; back r2", order: "code 1 3; 0:; if r0 1 2; 1:; r1 = phi r0 r1; if r1 2 3; 2:; if r0 3 1; 3:; r2 = phi r2 r1; back r2", split: "code 1 3; 0:; if r0 4 5; 1:; if r0 6 7; 2:; r1 = phi r0 r1; if r1 8 9; 3:; r2 = phi r1 r2; back r2; 4:; go 2; 5:; go 1; 6:; go 3; 7:; go 2; 8:; go 1; 9:; go 3"},
		// what is not sharp
		{s: "code 1 2; 0:; if r0 1 1; 1:; r1 = phi r0 r1; if r0 1 1"}, {s: "code 1 2; 0:; if r0 2 1; 1:; r1 = phi r0; go 3; 2:; r1 = phi r1; go 3; 3:; r1 = phi r0 r1; back r1"},
		{s: "code 1 3; 0:; if r0 1 2; 1:; r1 = phi r0 r2; if r0 3 3; 2:; if r2 1 1; 3:; r2 = phi r1; back r2", order: "code 1 3; 0:; if r0 2 1; 1:; if r2 2 2; 2:; r1 = phi r0 r2; if r0 3 3; 3:; r2 = phi r1; back r2", split: "code 1 3; 0:; if r0 4 2; 1:; r1 = phi r2 r0; if r0 3 3; 2:; if r2 1 1; 3:; r2 = phi r1; back r2; 4:; go 1"},
	})
}

// everyNext hands out all lists of so many lists, each one of the choices.
func everyNext(n int, choices [][]int, visit func(ways [][]int)) {
	ways := make([][]int, n)
	var put func(b int)
	put = func(b int) {
		if b == n {
			visit(ways)
			return
		}
		for _, next := range choices {
			ways[b] = next
			put(b + 1)
		}
	}
	put(0)
}

// choicesOf are the Next that a block may have, with up to two of the blocks from one on.
func choicesOf(from int, blocks int) [][]int {
	choices := [][]int{nil}
	for a := from; a < blocks; a++ {
		choices = append(choices, []int{a})
		for b := from; b < blocks; b++ {
			choices = append(choices, []int{a, b})
		}
	}
	return choices
}

// TestGraphOfSmallCodes has all codes of up to four blocks, with ways to the block 0, too.
func TestGraphOfSmallCodes(t *testing.T) {
	count := 0
	for n := 1; n <= 4; n++ {
		blocks := make([]impl.Block, n)
		everyNext(n, choicesOf(0, n), func(ways [][]int) {
			for b, next := range ways {
				blocks[b].Next = next
			}
			count++
			if n < 4 || count%4 == 0 {
				checkGraph(t, impl.Code{Blocks: blocks})
				return
			}
			c := impl.Code{Blocks: blocks} // the same without looking for shared memory
			if !slices.Equal(impl.ReachedIn(c), wantReached(c)) || !slices.Equal(impl.OrderIn(c), wantOrder(c)) || !slices.EqualFunc(impl.BackEdges(c), wantBack(c), slices.Equal) || impl.HasSharp(c) != wantHasSharp(c) {
				t.Fatalf("of %v is told %v, %v, %v, %v", ways, impl.ReachedIn(c), impl.OrderIn(c), impl.BackEdges(c), impl.HasSharp(c))
			}
		})
	}
	if count != 3+7*7+13*13*13+21*21*21*21 {
		t.Errorf("%d small codes", count)
	}
	everyNext(2, [][]int{nil, {-1}, {0}, {1}, {2}, {0, -1}, {1, 2}, {1, 0, 1}, {0, 0, 0, 1}, {1, 1, 1}, {1, 1, 2}, {math.MaxInt}}, func(ways [][]int) {
		checkGraph(t, impl.Code{Blocks: []impl.Block{{Next: ways[0]}, {Next: ways[1]}}})
	})
}

// codeOfWays is a valid code with some Next. Each block tells from which one it was come to, and a JumpIf takes its way by a bit of
// what is handed to the code.
func codeOfWays(ways [][]int) impl.Code {
	c := impl.Code{Params: 1, Regs: 6 + len(ways), Blocks: make([]impl.Block, len(ways))}
	for b, next := range ways {
		c.Blocks[b] = impl.Block{Next: next, Jump: []int{3, 1, 2}[len(next)], On: []int{1, 0, 3}[len(next)], Ins: []impl.Ins{{Op: 1, To: 6 + b, N: b % 256}, {Op: 13, To: -1, Args: []int{1}}, {Op: 7, To: 3, Args: []int{0, 4}}, {Op: 6, To: 0, Args: []int{0, 4}}}}
	}
	c.Blocks[0].Ins = append([]impl.Ins{{Op: 1, To: 4, N: 2}}, c.Blocks[0].Ins...)
	for b, preds := range wantPreds(c) {
		own, other := impl.Phi{To: 1}, impl.Phi{To: 2}
		for i, pred := range preds {
			own.Args = append(own.Args, 6+pred)
			other.Args = append(other.Args, 1+i%2)
		}
		switch {
		case b > 0 && len(ways) <= 100:
			c.Blocks[b].Phis = []impl.Phi{other, own}
			c.Blocks[b].Ins = append(c.Blocks[b].Ins, impl.Ins{Op: 13, To: -1, Args: []int{2}})
		case b > 0:
			c.Blocks[b].Phis = []impl.Phi{own}
		}
	}
	return plainCode(c)
}

// TestGraphOfSmallUnits has all valid units of one code with up to three blocks, and many of four.
func TestGraphOfSmallUnits(t *testing.T) {
	count := 0
	for n := 1; n <= 4; n++ {
		everyNext(n, choicesOf(1, n), func(ways [][]int) {
			count++
			if (n < 4 || count%5 == 0) && !checkGraphs(t, impl.Unit{Codes: []impl.Code{codeOfWays(ways)}}, 60) {
				t.Fatalf("the code with the ways %v is not valid", ways)
			}
		})
	}
	if count != 1+3*3+7*7*7+13*13*13*13 {
		t.Errorf("%d small units", count)
	}
}

// someWays are the Next of so many blocks: most lead on, or back a little; some anywhere.
func someWays(rnd *rand.Rand, n int, from int) [][]int {
	ways := make([][]int, n)
	for b := range ways {
		near := func() int {
			m := b + 1
			if k := rnd.Intn(9); k < 4 {
				m = b + 1 + rnd.Intn(4)
			} else if k < 6 {
				m = b - rnd.Intn(6)
			} else if k == 6 {
				m = rnd.Intn(n)
			}
			return min(max(m, from), n-1)
		}
		if n == from {
			continue
		}
		switch k := rnd.Intn(10); {
		case k < 5:
			ways[b] = []int{near(), near()}
		case k < 9:
			ways[b] = []int{near()}
		}
	}
	return ways
}

func TestGraphOfRandomCodes(t *testing.T) {
	rnd := rand.New(rand.NewSource(10))
	reached, back, order, sharp := 0, 0, 0, map[bool]int{}
	for i := range 600 {
		n := 5 + rnd.Intn(20)
		if i%6 == 0 {
			n = 25 + rnd.Intn(136)
		}
		var c impl.Code
		for _, next := range someWays(rnd, n, 0) {
			for rnd.Intn(12) == 0 {
				next = append(next, rnd.Intn(n))
			}
			c.Blocks = append(c.Blocks, impl.Block{Next: next})
		}
		checkGraph(t, c)
		reached += len(impl.ReachedIn(c))
		back += len(impl.BackEdges(c))
		sharp[impl.HasSharp(c)]++
		if !slices.Equal(impl.ReachedIn(c), impl.OrderIn(c)) {
			order++
		}
		if b := rnd.Intn(n); len(c.Blocks[b].Next) > 0 { // and one with a Next that is no block
			c.Blocks[b].Next[rnd.Intn(len(c.Blocks[b].Next))] = []int{-1, n, n + 1, math.MaxInt, math.MinInt}[rnd.Intn(5)]
			checkGraph(t, c)
		}
	}
	if reached < 5000 || back < 1000 || order < 300 || sharp[true] < 200 {
		t.Errorf("random codes have %d blocks that are reached, and %d edges back; %d are in another order, and sharp are %v", reached, back, order, sharp)
	}
}

// handedDown gives codes of ways that stand behind others of them calls of these, in some blocks.
func handedDown(rnd *rand.Rand, u impl.Unit) impl.Unit {
	for k := 1; k < len(u.Codes); k++ {
		for b := range u.Codes[k].Blocks {
			x := &u.Codes[k].Blocks[b]
			if rnd.Intn(3) == 0 {
				x.Ins = append(x.Ins, impl.Ins{Op: 14, To: 5, N: rnd.Intn(k), Args: []int{0}}, impl.Ins{Op: 13, To: -1, Args: []int{5}})
			}
		}
	}
	return u
}

func TestGraphOfRandomUnits(t *testing.T) {
	rnd := rand.New(rand.NewSource(11))
	clear(turnsDone)
	clear(graphEnds)
	for i := range 500 {
		if !checkGraphs(t, someUnit(rnd), 2000) {
			t.Fatal("a random unit is not valid")
		}
		var u impl.Unit
		for range 1 + rnd.Intn(4) {
			u.Codes = append(u.Codes, codeOfWays(someWays(rnd, 1+rnd.Intn(12), 1)))
		}
		if !checkGraphs(t, handedDown(rnd, u), 2000) {
			t.Fatalf("%v is not valid", u)
		}
		if i%10 == 0 {
			n := 60 + rnd.Intn(101)
			if !checkGraphs(t, impl.Unit{Codes: []impl.Code{codeOfWays(someWays(rnd, n, 1))}}, 5000) {
				t.Fatalf("a random unit of %d blocks is not valid", n)
			}
		}
	}
	for _, g := range graphTurns {
		if turnsDone[g.name+" changes"] < 300 || turnsDone[g.name+" changes nothing"] < 50 {
			t.Errorf("%s of random units: %v", g.name, turnsDone)
		}
	}
	if turnsDone["SplitEdges is false"] < 5 {
		t.Errorf("random units that are too great: %v", turnsDone)
	}
	for end, least := range map[int]int{0: 1000, 1: 50, 2: 50, 3: 500} {
		if graphEnds[end] < least {
			t.Errorf("runs of random units end with %v", graphEnds)
		}
	}
}

// TestGraphOfChangedUnits has units that differ from one in one part; most of them are not valid.
func TestGraphOfChangedUnits(t *testing.T) {
	rnd := rand.New(rand.NewSource(12))
	valid, wrong := 0, 0
	for _, s := range []string{allOps, "code 1 4; 0:; if r0 1 2; 1:; r3 = num 3; go 2; 2:; r1 = phi r2 r3; r2 = phi r3 r2; if r2 2 3; 3:; back r1; 4:; go 4", "code 1 5; 0:; go 2; 1:; r4 = num 4; go 2; 2:; r1 = phi r0 r4; back r1"} {
		otherUnits(unitOf(s), func(other impl.Unit) {
			if len(other.Codes) > 3 && rnd.Intn(2) > 0 {
				return
			}
			if checkGraphs(t, other, 200) {
				valid++
			} else {
				wrong++
			}
		})
	}
	if valid < 200 || wrong < 700 {
		t.Errorf("%d changed units are valid, %d are not", valid, wrong)
	}
}

// TestGraphOfLoweredPrograms has units as chapter 9 makes them, with loops, loops in loops and blocks that are not reached.
func TestGraphOfLoweredPrograms(t *testing.T) {
	m := maker{rnd: rand.New(rand.NewSource(13))}
	done := 0
	for range 150 {
		if u, ok := impl.LowerProgram(m.program()); ok {
			checkGraphs(t, u, 3000)
			done++
		}
	}
	if done < 100 {
		t.Errorf("%d programs are lowered", done)
	}
	u, _ := impl.LowerProgram(read(t, "fn m(a){let b=3;loop a{a=a-1;loop b&a{b=b-1;say b;}if a{say a;}else{back b;}}back 1;}"))
	checkGraphs(t, u, 3000)
	for _, g := range graphTurns {
		if v, ok := g.turn(u); !ok || equalUnits(v, u) {
			t.Errorf("%s of a lowered program is %v, %v", g.name, v, ok)
		}
	}
}

// withSharp is a code with so many blocks that lead to themselves and on, one behind the other, and more blocks that are not
// reached. It has twice as many sharp edges as the former, but one.
func withSharp(n int, more int) impl.Code {
	ways := [][]int{{1}}
	for b := 1; b <= n; b++ {
		ways = append(ways, []int{b + 1, b})
	}
	for range more + 1 {
		ways = append(ways, nil)
	}
	return codeOfWays(ways)
}

func TestGraphSplitsOfManyBlocks(t *testing.T) {
	small := codeOfWays([][]int{{1, 1}, nil})
	for _, n := range []int{1, 2, 10, 52, 53, 54} {
		for total := 158; total <= 163; total++ {
			more := total - (2*n - 1) - (n + 2)
			if more < 0 || n+2+more > 160 {
				continue
			}
			great := withSharp(n, more)
			for k := range 4 {
				u := impl.Unit{Codes: slices.Repeat([]impl.Code{small}, k+1)}
				u.Codes[k/2] = great
				checkGraphs(t, plainUnit(u), 100)
				got, ok := impl.SplitEdges(u)
				if ok != (total <= 160) && wantInsCount(u) >= 0 || ok && len(got.Codes[k/2].Blocks) != total {
					t.Errorf("SplitEdges of a code that has %d blocks then is %v", total, ok)
				}
			}
		}
	}
	for n := 157; n <= 160; n++ { // one sharp edge
		ways := slices.Repeat([][]int{nil}, n)
		ways[0], ways[n-3] = []int{n - 3}, []int{n - 2, n - 3}
		u := impl.Unit{Codes: []impl.Code{codeOfWays(ways)}}
		if _, ok := impl.SplitEdges(u); ok != (n < 160) || !checkGraphs(t, u, 100) {
			t.Errorf("SplitEdges of %d blocks with a sharp edge is %v", n, ok)
		}
	}
	full := codeOfWays(someWays(rand.New(rand.NewSource(14)), 160, 1)) // as many blocks and instructions as there may be
	full.Blocks[159].Ins = append(full.Blocks[159].Ins, slices.Repeat([]impl.Ins{{Op: 13, To: -1, Args: []int{0}}}, 800-impl.InsCount(impl.Unit{Codes: []impl.Code{full}}))...)
	if !checkGraphs(t, impl.Unit{Codes: []impl.Code{full}}, 5000) {
		t.Error("a full unit is not valid")
	}
	checkGraphs(t, impl.Unit{Codes: slices.Repeat([]impl.Code{unitOf("code 1 1" + strings.Repeat("; 0:; back r0", 160)).Codes[0]}, 4)}, 100)
}

// TestGraphOfUnitsThatAreWrong has a unit that is not valid for each rule of chapter 7, and great ones.
func TestGraphOfUnitsThatAreWrong(t *testing.T) {
	base := "code 2 3; 0:; if r0 1 2; 1:; go 2; 2:; r2 = phi r0 r1 r2; say r2; back r2; 3:; go 2"
	callee := "code 1 1; 0:; back r0;"
	if !checkGraphs(t, unitOf(callee+base), 100) {
		t.Fatal("the unit that is to be changed is not valid")
	}
	units := wrongUnits()
	for _, change := range [][2]string{
		{"code 2 3", "code 4 4"}, {"code 2 3", "code -1 3"}, {"code 2 3", "code 3 2"}, {"code 2 3", "code 2 301"}, {"code 2 3", "code 2 2"}, {"say r2", "say r3"}, {"say r2", "say r-1"}, {"say r2", "say"}, {"say r2", "say r0 r0"}, {"say r2", "r0 = say r0"}, {"say r2", "r-1 = num 3"}, {"say r2", "r3 = num 3"}, {"say r2", "r0 = num 256"}, {"say r2", "r0 = num -1"}, {"say r2", "r0 = num 1 r0"}, {"say r2", "r0 = copy"}, {"say r2", "r0 = add r0"}, {"say r2", "r0 = add r0 r1 r1"}, {"say r2", "r0 = what r0"},
		{"say r2", "r0 = call 1 r0"}, {"say r2", "r0 = call -1 r0"}, {"say r2", "r0 = call 0"}, {"say r2", "r0 = call 0 r0 r0"}, {"say r2", "put r0"}, {"say r2", "r0 = put r0 r0"}, {"go 2", "go 0"}, {"go 2", "go 4"}, {"go 2", "go -1"}, {"go 2", "go"}, {"go 2", "go 2 2"}, {"if r0 1 2", "if r3 1 2"}, {"if r0 1 2", "if r-1 1 2"}, {"if r0 1 2", "if r0 0 2"}, {"if r0 1 2", "if r0 1 4"}, {"if r0 1 2", "if r0 2"}, {"if r0 1 2", "if r0 1 2 2"}, {"if r0 1 2", "what"}, {"back r2", "back r3"}, {"back r2", "back r-1"},
		{"phi r0 r1 r2", "phi r0 r1"}, {"phi r0 r1 r2", "phi r0 r1 r2 r2"}, {"phi r0 r1 r2", "phi r0 r1 r3"}, {"r2 = phi", "r3 = phi"}, {"r2 = phi", "r-1 = phi"}, {"0:", "0:; r0 = phi"}, {"; 3:; go 2", ""}, {base, "code 1 1"}, {base, base + strings.Repeat(";"+callee, 3) + "code 0 1; 0:; back r0"},
	} {
		u := unitOf(callee + strings.Replace(base, change[0], change[1], 1))
		if equalUnits(u, unitOf(callee+base)) {
			t.Errorf("the change %q changes nothing", change)
		}
		if checkGraphs(t, u, 100) {
			t.Errorf("the unit is valid with the change %q", change)
		}
		units = append(units, u)
	}
	on, many := unitOf(base), unitOf(base)
	on.Codes[0].Blocks[1].On = 1
	many.Codes[0].Blocks[0].Ins = slices.Repeat([]impl.Ins{{Op: 13, To: -1, Args: []int{0}}}, 799)
	for i, u := range append(units, on, many, impl.Unit{Codes: []impl.Code{withSharp(1, 158)}}) {
		for _, g := range graphTurns {
			if v, ok := g.turn(u); ok || len(v.Codes) > 0 {
				t.Errorf("%s of the unit %d, which is not valid, is %v, %v", g.name, i, v, ok)
			}
		}
	}
}

// TestGraphResultsAreTheirOwn writes to results, and to what is behind them.
func TestGraphResultsAreTheirOwn(t *testing.T) {
	rnd := rand.New(rand.NewSource(15))
	list := []impl.Unit{unitOf(allOps), unitOf("code 0 1; 0:; back r0"), {Codes: []impl.Code{withSharp(3, 2), withSharp(20, 0)}}}
	for range 40 {
		list = append(list, impl.Unit{Codes: []impl.Code{codeOfWays(someWays(rnd, 8, 1))}})
	}
	for _, u := range list {
		before := plainUnit(u)
		for _, g := range graphTurns {
			made, _ := g.turn(u)
			again, _ := g.turn(u)
			want := plainUnit(again)
			if sharesWith(u, made, again) {
				t.Fatalf("results of %s share memory", g.name)
			}
			spoilUnit(made)
			if third, _ := g.turn(u); !equalUnits(again, want) || !equalUnits(third, want) || !equalUnits(u, before) {
				t.Fatalf("what is written to a result of %s is seen elsewhere", g.name)
			}
		}
		for _, c := range u.Codes {
			told := func() string { return fmt.Sprint(impl.ReachedIn(c), impl.OrderIn(c), impl.BackEdges(c)) }
			was := told()
			for _, list := range append(impl.BackEdges(c), impl.ReachedIn(c), impl.OrderIn(c)) {
				for i := range list[:cap(list)] {
					list[:cap(list)][i] = -77
				}
			}
			clear(impl.BackEdges(c))
			if told() != was || !equalUnits(u, before) {
				t.Fatalf("of %v is told %s, and then %s", c, was, told())
			}
		}
	}
}

// TestGraphLeavesMemoryAlone has lists that are the same memory, and have more memory behind them, which is not to be read or
// written.
func TestGraphLeavesMemoryAlone(t *testing.T) {
	numbers := []int{2, 1, 2, 3, 1, 900}
	phis := []impl.Phi{{To: 7, Args: numbers[:2]}, {To: 2, Args: numbers[1:3]}, {To: 900, Args: numbers}}
	ins := []impl.Ins{{Op: 3, To: 7, Args: numbers[:2]}, {Op: 3, To: 2, Args: numbers[1:3]}, {Op: 13, To: -1, Args: numbers[:1]}, {Op: 77, Args: numbers}}
	blocks := []impl.Block{{Ins: ins[:3], Jump: 2, On: 1, Next: numbers[:2]}, {Phis: phis[:2], Ins: ins[:2], Jump: 2, On: 2, Next: numbers[3:5]}, {Ins: ins[1:3], Jump: 3, On: 7}, {Ins: ins[:0], Jump: 3, On: 0}, {Jump: 88}}
	codes := []impl.Code{{Params: 1, Regs: 8, Blocks: blocks[:4]}, {Params: 2, Regs: 9, Blocks: blocks[:4]}, {Params: 3, Regs: 8, Blocks: blocks[:4]}, {Params: -1}}
	told := func() string { return fmt.Sprint(numbers, phis, ins, blocks, codes) }
	before := told()
	for n := range 5 {
		if checkGraphs(t, impl.Unit{Codes: codes[:n]}, 100) != (n > 0 && n < 4) {
			t.Errorf("the first %d codes are valid: %v", n, n < 1 || n > 3)
		}
	}
	for n := range 6 {
		checkGraph(t, impl.Code{Blocks: blocks[:n]})
	}
	if after := told(); after != before {
		t.Errorf("what was given became %s", after)
	}
}
