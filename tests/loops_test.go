package tests

import (
	"fmt"
	"math"
	"slices"
	"strings"
	"testing"

	"loop.example/g00385/impl"
)

// rowsText has a stroke between two lists.
func rowsText(rows [][]int) string {
	texts := []string{}
	for _, row := range rows {
		texts = append(texts, strings.Trim(fmt.Sprint(row), "[]"))
	}
	return strings.Join(texts, "|")
}

// loopsText tells each pair of Backs with the blocks of its Loop.
func loopsText(g impl.Graph) string {
	texts := []string{}
	for _, pair := range impl.Backs(g) {
		loop := strings.Trim(fmt.Sprint(impl.Loop(g, pair[0], pair[1])), "[]")
		texts = append(texts, fmt.Sprintf("%d-%d: %s", pair[0], pair[1], loop))
	}
	return strings.Join(texts, "|")
}

// A reign is what a graph has to tell: Rules, Ruler, Edge, Backs with their loops, Deep, and whether it is Plain.
type reign struct {
	rules, ruler, edge, loops, deep string
	plain                           bool
}

func reignOf(g impl.Graph) reign {
	return reign{
		rowsText(impl.Rules(g)), rowsText([][]int{impl.Ruler(g)}), rowsText(impl.Edge(g)),
		loopsText(g), rowsText([][]int{impl.Deep(g)}), impl.Plain(g),
	}
}

func wantReign(t *testing.T, name string, g impl.Graph, want reign) {
	t.Helper()
	if got := reignOf(g); got != want {
		t.Errorf("%s:\n%stells %+v\nwant %+v", name, graphText(g), got, want)
	}
	wantCourt(t, name, g)
	wantRuled(t, name, g)
}

func TestLoopsOfStatements(t *testing.T) {
	for s, want := range map[string]reign{
		"": {"0", "-1", "", "", "0", true},
		"while x { x = x - 1; }": {
			"0|0 1|0 1 2|0 1 3", "-1 0 1 1", "|1|1|", "2-1: 1 2", "0 1 1 0", true},
		"while x { while y { y = y - 1; } x = x - 1; }": {
			"0|0 1|0 1 2|0 1 2 3|0 1 2 3 4|0 1 2 3 5|0 1 6", "-1 0 1 2 3 3 1", "|1|1|1 3|3|1|",
			"4-3: 3 4|5-1: 1 2 3 4 5", "0 1 1 2 2 1 0", true},
		"while x { if y { put 1; } else { put 2; } x = x - 1; } put 3;": {
			"0|0 1|0 1 2|0 1 2 3|0 1 2 4|0 1 2 5|0 1 6", "-1 0 1 2 2 2 1", "|1|1|5|5|1|",
			"5-1: 1 2 3 4 5", "0 1 1 1 1 1 0", true},
		"if x { while y { y = y - 1; } } else { put 1; }": {
			"0|0 1|0 1 2|0 1 2 3|0 1 2 4|0 5|0 6", "-1 0 1 2 2 0 0", "|6|2 6|2|6|6|",
			"3-2: 2 3", "0 0 1 1 0 0 0", true},
		"while x { x = x - 1; } while y { y = y - 1; }": {
			"0|0 1|0 1 2|0 1 3|0 1 3 4|0 1 3 4 5|0 1 3 4 6", "-1 0 1 1 3 4 4", "|1|1||4|4|",
			"2-1: 1 2|5-4: 4 5", "0 1 1 0 1 1 0", true},
		"if x { put 1; } else { put 2; }": {
			"0|0 1|0 2|0 3", "-1 0 0 0", "|3|3|", "", "0 0 0 0", true},
		// Nobody comes to what stands behind the return, which alone goes back.
		"while x { return 1; put 2; }": {
			"0|0 1|0 1 2||0 1 4", "-1 0 1 -1 1", "||||", "", "0 0 0 0 0", true},
		"while x { if y { return 1; } else { } }": {
			"0|0 1|0 1 2|0 1 2 3||0 1 2 5|0 1 2 5 6|0 1 7", "-1 0 1 2 -1 2 5 1", "|1|1|||1|1|",
			"6-1: 1 2 4 5 6", "0 1 1 0 1 1 1 0", true},
	} {
		wantReign(t, s, impl.Lower(parsed(t, body(s))), want)
	}
}

func TestRulesWhereOneComesByTwoWays(t *testing.T) {
	for _, c := range []struct {
		name string
		g    impl.Graph
		want reign
	}{
		{"two ways", shape([]int{1, 2}, []int{3}, []int{3}, []int{}),
			reign{"0|0 1|0 2|0 3", "-1 0 0 0", "|3|3|", "", "0 0 0 0", true}},
		{"one of them at once", shape([]int{1, 2}, []int{2}, []int{3}, []int{}),
			reign{"0|0 1|0 2|0 2 3", "-1 0 0 2", "|2||", "", "0 0 0 0", true}},
		{"two ways from the midst", shape([]int{4}, []int{3}, []int{1, 5}, []int{}, []int{2}, []int{3}),
			reign{"0|0 1 2 4|0 2 4|0 2 3 4|0 4|0 2 4 5", "-1 2 4 2 0 2", "|3||||3", "", "0 0 0 0 0 0", true}},
		{"three ways", shape([]int{1, 2}, []int{3, 4}, []int{4}, []int{4}, []int{}),
			reign{"0|0 1|0 2|0 1 3|0 4", "-1 0 0 1 0", "|4|4|4|", "", "0 0 0 0 0", true}},
		{"both ways of a JmIf", shape([]int{1, 1}, []int{2, 2}, []int{}),
			reign{"0|0 1|0 1 2", "-1 0 1", "||", "", "0 0 0", true}},
		{"numbers that fall", shape([]int{3}, []int{}, []int{1}, []int{2}),
			reign{"0|0 1 2 3|0 2 3|0 3", "-1 2 3 0", "|||", "", "0 0 0 0", true}},
	} {
		wantReign(t, c.name, c.g, c.want)
	}
}

func TestLoopsIntoWhoseMidstOneComes(t *testing.T) {
	for _, c := range []struct {
		name string
		g    impl.Graph
		want reign
	}{
		{"two blocks", shape([]int{1, 2}, []int{2}, []int{1, 3}, []int{}),
			reign{"0|0 1|0 2|0 2 3", "-1 0 0 2", "|2|1|", "", "0 0 0 0", false}},
		{"without an end", shape([]int{1, 2}, []int{2}, []int{1}),
			reign{"0|0 1|0 2", "-1 0 0", "|2|1", "", "0 0 0", false}},
		{"three blocks", shape([]int{1, 2}, []int{2}, []int{3}, []int{1}),
			reign{"0|0 1|0 2|0 2 3", "-1 0 0 2", "|2|1|1", "", "0 0 0 0", false}},
		{"within a loop", shape([]int{1}, []int{2, 3}, []int{3}, []int{2, 4}, []int{1, 5}, []int{}),
			reign{"0|0 1|0 1 2|0 1 3|0 1 3 4|0 1 3 4 5", "-1 0 1 1 3 4", "|1|3|1 2|1|", "4-1: 1 2 3 4", "0 1 1 1 1 0", false}},
		{"beside a loop", shape([]int{1}, []int{1, 2}, []int{3, 4}, []int{4}, []int{3}),
			reign{"0|0 1|0 1 2|0 1 2 3|0 1 2 4", "-1 0 1 2 2", "|1||4|3", "1-1: 1", "0 1 0 0 0", false}},
		{"one of them goes to itself", shape([]int{1, 2}, []int{2, 1}, []int{1, 3}, []int{}),
			reign{"0|0 1|0 2|0 2 3", "-1 0 0 2", "|1 2|1|", "1-1: 1", "0 1 0 0", false}},
		{"back to block 0 from both", shape([]int{1, 2}, []int{2, 0}, []int{1, 0}),
			reign{"0|0 1|0 2", "-1 0 0", "0|0 2|0 1", "1-0: 0 1 2|2-0: 0 1 2", "1 1 1", false}},
	} {
		wantReign(t, c.name, c.g, c.want)
	}
}

func TestBlocksThatGoToThemselves(t *testing.T) {
	one := reign{"0|0 1", "-1 0", "|1", "1-1: 1", "0 1", true}
	wantReign(t, "by a JmGo", shape([]int{1}, []int{1}), one)
	wantReign(t, "both ways", shape([]int{1}, []int{1, 1}), one)
	two := reign{"0|0 1|0 1 2", "-1 0 1", "|1|", "1-1: 1", "0 1 0", true}
	wantReign(t, "by To", shape([]int{1}, []int{1, 2}, []int{}), two)
	wantReign(t, "by Else", shape([]int{1}, []int{2, 1}, []int{}), two)
	for _, next := range [][]int{{0}, {0, 0}} {
		wantReign(t, "block 0", shape(next), reign{"0", "-1", "0", "0-0: 0", "1", true})
	}
	for _, next := range [][]int{{0, 1}, {1, 0}} {
		wantReign(t, "block 0 by one way", shape(next, []int{}), reign{"0|0 1", "-1 0", "0|", "0-0: 0", "1 0", true})
	}
	// The way to itself is none that comes to it from elsewhere.
	wantReign(t, "within a loop", shape([]int{1}, []int{2, 3}, []int{2, 1}, []int{}),
		reign{"0|0 1|0 1 2|0 1 3", "-1 0 1 1", "|1|1 2|", "2-1: 1 2|2-2: 2", "0 1 2 0", true})
}

func TestLoopsOfOneHeadAndOfMore(t *testing.T) {
	for _, c := range []struct {
		name string
		g    impl.Graph
		want reign
	}{
		{"back to block 0", shape([]int{1, 2}, []int{0}, []int{}),
			reign{"0|0 1|0 2", "-1 0 0", "0|0|", "1-0: 0 1", "1 1 0", true}},
		{"a loop within that of block 0", shape([]int{1}, []int{1, 0}),
			reign{"0|0 1", "-1 0", "0|0 1", "1-0: 0 1|1-1: 1", "1 2", true}},
		{"back by both ways", shape([]int{1}, []int{2, 3}, []int{1, 1}, []int{}),
			reign{"0|0 1|0 1 2|0 1 3", "-1 0 1 1", "|1|1|", "2-1: 1 2", "0 1 1 0", true}},
		{"two pairs with one to", shape([]int{1}, []int{2, 3}, []int{1}, []int{1, 4}, []int{}),
			reign{"0|0 1|0 1 2|0 1 3|0 1 3 4", "-1 0 1 1 3", "|1|1|1|", "2-1: 1 2|3-1: 1 3", "0 1 1 1 0", true}},
		{"one of them with more blocks", shape([]int{1}, []int{2, 4}, []int{1, 3}, []int{1}, []int{}),
			reign{"0|0 1|0 1 2|0 1 2 3|0 1 4", "-1 0 1 2 1", "|1|1|1|", "2-1: 1 2|3-1: 1 2 3", "0 1 1 1 0", true}},
		{"the head goes to itself, too", shape([]int{1}, []int{1, 2}, []int{1}),
			reign{"0|0 1|0 1 2", "-1 0 1", "|1|1", "1-1: 1|2-1: 1 2", "0 1 1", true}},
		{"two heads with one end", shape([]int{1}, []int{2}, []int{3}, []int{1, 2}),
			reign{"0|0 1|0 1 2|0 1 2 3", "-1 0 1 2", "|1|1 2|1 2", "3-1: 1 2 3|3-2: 2 3", "0 1 2 2", true}},
		{"the same blocks but for the outer head", shape([]int{1}, []int{2}, []int{3, 4}, []int{2}, []int{1, 2}),
			reign{"0|0 1|0 1 2|0 1 2 3|0 1 2 4", "-1 0 1 2 2", "|1|1 2|2|1 2", "3-2: 2 3|4-1: 1 2 3 4|4-2: 2 4", "0 1 2 2 2", true}},
		{"three deep", shape([]int{1}, []int{2, 5}, []int{3, 1}, []int{4}, []int{4, 2}, []int{}),
			reign{"0|0 1|0 1 2|0 1 2 3|0 1 2 3 4|0 1 5", "-1 0 1 2 3 1", "|1|1 2|2|2 4|", "2-1: 1 2 3 4|4-2: 2 3 4|4-4: 4", "0 1 2 2 3 0", true}},
		{"a head behind its end by number", shape([]int{3}, []int{3}, []int{}, []int{1, 2}),
			reign{"0|0 1 3|0 2 3|0 3", "-1 3 3 0", "|3||3", "1-3: 1 3", "0 1 0 1", true}},
	} {
		wantReign(t, c.name, c.g, c.want)
	}
}

func TestBlocksThatOneDoesNotComeTo(t *testing.T) {
	for _, c := range []struct {
		name string
		g    impl.Graph
		want reign
	}{
		{"one that goes on", shape([]int{2}, []int{2}, []int{}),
			reign{"0||0 2", "-1 -1 0", "||", "", "0 0 0", true}},
		{"one behind another", shape([]int{1}, []int{2}, []int{}, []int{2}),
			reign{"0|0 1|0 1 2|", "-1 0 1 -1", "|||", "", "0 0 0 0", true}},
		{"one that goes to itself", shape([]int{}, []int{1}),
			reign{"0|", "-1 -1", "|", "", "0 0", true}},
		{"two that go to each other", shape([]int{3}, []int{2}, []int{1}, []int{}),
			reign{"0|||0 3", "-1 -1 -1 0", "|||", "", "0 0 0 0", true}},
		{"two into whose midst another one comes", shape([]int{}, []int{2, 3}, []int{3}, []int{2}),
			reign{"0|||", "-1 -1 -1 -1", "|||", "", "0 0 0 0", true}},
		{"one goes to block 0", shape([]int{}, []int{0}),
			reign{"0|", "-1 -1", "|", "", "0 0", true}},
		{"into the midst of a loop", shape([]int{1}, []int{2, 3}, []int{1}, []int{}, []int{2}),
			reign{"0|0 1|0 1 2|0 1 3|", "-1 0 1 1 -1", "|1|1||", "2-1: 1 2 4", "0 1 1 0 1", true}},
		{"two, one behind the other, into its midst", shape([]int{1}, []int{2, 3}, []int{1}, []int{}, []int{2}, []int{4}),
			reign{"0|0 1|0 1 2|0 1 3||", "-1 0 1 1 -1 -1", "|1|1|||", "2-1: 1 2 4 5", "0 1 1 0 1 1", true}},
		{"to the head of a loop", shape([]int{1}, []int{2, 3}, []int{1}, []int{}, []int{1}),
			reign{"0|0 1|0 1 2|0 1 3|", "-1 0 1 1 -1", "|1|1||", "2-1: 1 2", "0 1 1 0 0", true}},
		{"to a head and into the midst", shape([]int{1}, []int{2, 3}, []int{1}, []int{}, []int{1, 2}),
			reign{"0|0 1|0 1 2|0 1 3|", "-1 0 1 1 -1", "|1|1||", "2-1: 1 2 4", "0 1 1 0 1", true}},
		{"to a head that is its own end", shape([]int{1}, []int{1}, []int{1}),
			reign{"0|0 1|", "-1 0 -1", "|1|", "1-1: 1", "0 1 0", true}},
		{"into the loop of block 0", shape([]int{1}, []int{0}, []int{1}),
			reign{"0|0 1|", "-1 0 -1", "0|0|", "1-0: 0 1 2", "1 1 1", true}},
		{"the inner one of two", shape([]int{1}, []int{2}, []int{3}, []int{2, 1}, []int{3}),
			reign{"0|0 1|0 1 2|0 1 2 3|", "-1 0 1 2 -1", "|1|1 2|1 2|", "3-1: 1 2 3 4|3-2: 2 3 4", "0 1 2 2 2", true}},
	} {
		wantReign(t, c.name, c.g, c.want)
		for at := range c.g.Blocks {
			if !slices.Contains(impl.Blocks(c.g), at) {
				wantList(t, c.name+": Below", impl.Below(c.g, at))
			}
		}
	}
}

func TestBelowOfBlocks(t *testing.T) {
	g := shape([]int{4}, []int{3}, []int{1, 5}, []int{2, 3}, []int{2}, []int{3}, []int{2})
	for at, want := range [][]int{{0, 1, 2, 3, 4, 5}, {1}, {1, 2, 3, 5}, {3}, {1, 2, 3, 4, 5}, {5}, {}} {
		wantList(t, fmt.Sprint("Below ", at), impl.Below(g, at), want...)
	}
	for _, at := range farBlocks(len(g.Blocks)) {
		wantList(t, fmt.Sprint("Below ", at), impl.Below(g, at))
	}
}

// farBlocks are numbers of no block.
func farBlocks(blocks int) []int {
	return []int{-1, -2, blocks, blocks + 1, impl.MaxBlocks, 1 << 32, -1 << 32, math.MinInt, math.MaxInt}
}

func TestLoopOfNoPairOfBacks(t *testing.T) {
	g := shape([]int{1, 5}, []int{2, 3}, []int{1, 2}, []int{4}, []int{}, []int{6}, []int{5, 3}, []int{1}, []int{7, 8})
	if got := loopsText(g); got != "2-1: 1 2|2-2: 2|6-5: 5 6" {
		t.Fatalf("loops %s", got)
	}
	pairs := impl.Backs(g)
	numbers := append(upTo(len(g.Blocks)), farBlocks(len(g.Blocks))...)
	for _, from := range numbers {
		for _, to := range numbers {
			if !slices.Contains(pairs, [2]int{from, to}) {
				wantList(t, fmt.Sprintf("Loop %d %d", from, to), impl.Loop(g, from, to))
			}
		}
	}
}

// wantCourt holds all that is told of a graph that is GraphOk against what is told by other means.
func wantCourt(t *testing.T, name string, g impl.Graph) court {
	t.Helper()
	c := courtOf(g)
	tellAll := func(what string, got any, want any) {
		if fmt.Sprint(got) != fmt.Sprint(want) {
			t.Fatalf("%s: %s of\n%s%v; want %v", name, what, graphText(g), got, want)
		}
	}
	tellAll("Rules", impl.Rules(g), c.rules)
	tellAll("Ruler", impl.Ruler(g), c.ruler)
	tellAll("Edge", impl.Edge(g), c.edges())
	tellAll("Backs", impl.Backs(g), c.backs())
	tellAll("Deep", impl.Deep(g), c.deep())
	tellAll("Plain", impl.Plain(g), c.plain())
	for at := range g.Blocks {
		tellAll(fmt.Sprint("Below ", at), impl.Below(g, at), c.below(at))
	}
	for _, pair := range c.backs() {
		tellAll(fmt.Sprint("Loop ", pair), impl.Loop(g, pair[0], pair[1]), c.loop(pair[0], pair[1]))
	}
	return c
}

// wantRuled is promise 10 of a graph that is GraphOk.
func wantRuled(t *testing.T, name string, g impl.Graph) {
	t.Helper()
	rules, came := impl.Rules(g), impl.Blocks(g)
	for by := range g.Blocks {
		without := otherGraph(g)
		without.Blocks[by] = impl.Block{Jump: impl.JmRet}
		left := impl.Blocks(without)
		for at := range g.Blocks {
			want := slices.Contains(came, by) && slices.Contains(came, at) && (at == by || by == 0 || !slices.Contains(left, at))
			if slices.Contains(rules[at], by) != want {
				t.Fatalf("%s:\n%s%d rules %d: want %v", name, graphText(g), by, at, want)
			}
		}
	}
	for at, by := range impl.Ruler(g) {
		if (by == -1) != (at == 0 || !slices.Contains(came, at)) {
			t.Fatalf("%s:\n%s%d has %d as its Ruler", name, graphText(g), at, by)
		}
		if by == -1 {
			continue
		}
		for _, other := range rules[at] {
			if by == at || !slices.Contains(rules[at], by) || other != at && !slices.Contains(rules[by], other) {
				t.Fatalf("%s:\n%s%d has %d as its Ruler, beside %d", name, graphText(g), at, by, other)
			}
		}
	}
	for _, pair := range impl.Backs(g) {
		wantWhole(t, name, g, pair[0], pair[1], impl.Loop(g, pair[0], pair[1]))
	}
}

// wantWhole tells that a loop has its head and its end, and that from each of its blocks one comes to the end within it.
func wantWhole(t *testing.T, name string, g impl.Graph, from int, to int, loop []int) {
	t.Helper()
	inside := otherGraph(g)
	for at := range inside.Blocks {
		if !slices.Contains(loop, at) {
			inside.Blocks[at] = impl.Block{Jump: impl.JmRet}
		}
	}
	if !slices.Contains(loop, from) || !slices.Contains(loop, to) {
		t.Fatalf("%s:\n%sthe loop %d-%d is %v", name, graphText(g), from, to, loop)
	}
	for _, at := range loop {
		if !slices.Contains(goneTo(inside, at, nil), from) {
			t.Fatalf("%s:\n%sthe loop %d-%d is %v: one does not come from %d to its end", name, graphText(g), from, to, loop, at)
		}
	}
}

func TestRulesStandOnEachWay(t *testing.T) {
	t.Parallel()
	for blocks := 1; blocks <= 3; blocks++ {
		shapes(blocks, func(g impl.Graph) {
			wantRuled(t, "a shape", g)
			wantCourt(t, "a shape", g)
			if got, want := rowsText(impl.Rules(g)), rowsText(onEachWay(g)); got != want {
				t.Fatalf("Rules of\n%s%s; want %s", graphText(g), got, want)
			}
		})
	}
}

func TestRulesOfAllShapesOfFourBlocks(t *testing.T) {
	t.Parallel()
	plains := map[bool]int{}
	shapes(4, func(g impl.Graph) {
		plains[impl.Plain(g)]++
		if got, want := rowsText(impl.Rules(g)), rowsText(onEachWay(g)); got != want {
			t.Fatalf("Rules of\n%s%s; want %s", graphText(g), got, want)
		}
		if plains[true]%8 == 0 || plains[false]%4 == 1 {
			wantCourt(t, "a shape", g)
		}
	})
	if plains[true]+plains[false] != 21*21*21*21 || plains[false] < 1000 {
		t.Errorf("shapes %v", plains)
	}
}

// A finds counts what made graphs have, so that none of the tests below is told of graphs that have it not.
type finds map[string]int

func (f finds) look(c court) {
	g, heads := c.g, map[int]int{}
	for _, pair := range c.backs() {
		heads[pair[1]]++
		f["pairs"]++
		if pair[0] == pair[1] {
			f["to itself"]++
		}
		for _, at := range c.loop(pair[0], pair[1]) {
			if !slices.Contains(c.came, at) {
				f["comes from nowhere"]++
			}
		}
	}
	for _, pairs := range heads {
		if pairs > 1 {
			f["one head"]++
		}
	}
	if len(heads) > 0 && slices.Max(c.deep()) > 1 {
		f["deep"]++
	}
	if !c.plain() {
		f["not plain"]++
	}
	for _, b := range g.Blocks {
		f[[]string{"JmGo", "JmIf", "JmRet"}[b.Jump]]++
	}
}

func (f finds) wantMany(t *testing.T, least int, names ...string) {
	t.Helper()
	for _, name := range names {
		if f[name] < least {
			t.Errorf("only %d: %s; %v", f[name], name, f)
		}
	}
}

func TestRulesOfGraphs(t *testing.T) {
	t.Parallel()
	found := finds{}
	for seed := range int64(seeds) {
		g, args, input := madeGraph(seed)
		name := fmt.Sprint("graph ", seed)
		wantRuled(t, name, g)
		found.look(wantCourt(t, name, g))
		wantBegun(t, name, g, args, input)
	}
	found.wantMany(t, seeds/100, "pairs", "to itself", "one head", "deep", "not plain", "comes from nowhere", "JmGo", "JmIf", "JmRet")
}

func TestRulesOfTangles(t *testing.T) {
	t.Parallel()
	found := finds{}
	for seed := range int64(seeds / 5) {
		g := tangle(seed, 40)
		name := fmt.Sprint("tangle ", seed)
		wantRuled(t, name, g)
		found.look(wantCourt(t, name, g))
	}
	found.wantMany(t, seeds/100, "pairs", "to itself", "one head", "deep", "not plain", "comes from nowhere", "JmGo", "JmIf", "JmRet")
}

func TestRulesOfPrograms(t *testing.T) {
	t.Parallel()
	found := finds{}
	for seed := range int64(seeds / 3) {
		p, args, input := start(seed)
		name := fmt.Sprint("program ", seed)
		for _, g := range []impl.Graph{impl.Lower(p), impl.Trim(impl.Lower(p)), impl.Optimize(impl.Lower(p), 2)} {
			if !impl.GraphOk(g) {
				continue
			}
			wantRuled(t, name, g)
			found.look(wantCourt(t, name, g))
			wantBegun(t, name, g, args, input)
		}
	}
	found.wantMany(t, seeds/100, "pairs", "deep", "comes from nowhere", "JmGo", "JmIf", "JmRet")
	// One comes into a loop of a program by its head alone, which has one end.
	if found["not plain"] > 0 || found["one head"] > 0 {
		t.Errorf("%v", found)
	}
}

// wantBegun tells of what a walk does: each block that it begins comes behind all that rule it.
func wantBegun(t *testing.T, name string, g impl.Graph, args []int, input []int) {
	t.Helper()
	begun, rules := map[int]bool{}, impl.Rules(g)
	for _, at := range impl.Path(g, args, input, 200) {
		begun[at] = true
		for _, by := range rules[at] {
			if !begun[by] {
				t.Fatalf("%s:\n%s%d begins ahead of %d", name, graphText(g), at, by)
			}
		}
	}
}

// No two loops with different heads have the same blocks: each head would rule the other one.
func TestLoopsOfDifferentHeadsHaveDifferentBlocks(t *testing.T) {
	t.Parallel()
	count := 0
	told := func(g impl.Graph) {
		heads := map[string]int{}
		for _, pair := range impl.Backs(g) {
			blocks := plain(impl.Loop(g, pair[0], pair[1]))
			if head, there := heads[blocks]; there && head != pair[1] {
				t.Fatalf("%d and %d have the loop %s in\n%s", head, pair[1], blocks, graphText(g))
			}
			heads[blocks] = pair[1]
			count++
		}
	}
	shapes(3, told)
	for seed := range int64(seeds) {
		told(tangle(seed, 12))
	}
	if count < seeds {
		t.Errorf("only %d loops", count)
	}
}

func TestLoopsOfMostBlocks(t *testing.T) {
	const last = impl.MaxBlocks - 1
	// Each goes on, and back to the one ahead of it: as deep as can be.
	next, rulers, deep := [][]int{}, []int{}, []int{}
	for at := range impl.MaxBlocks {
		next, rulers, deep = append(next, []int{at + 1, max(0, at-1)}), append(rulers, at-1), append(deep, at+1)
	}
	// The last one ends, and is none to which the one ahead of it could come back.
	next[last], deep[last-1], deep[last] = []int{}, last-1, 0
	g := shape(next...)
	wantList(t, "Ruler", impl.Ruler(g), rulers...)
	wantList(t, "Deep", impl.Deep(g), deep...)
	wantList(t, "Below", impl.Below(g, 1), upTo(impl.MaxBlocks)[1:]...)
	wantList(t, "Below the last", impl.Below(g, last), last)
	wantList(t, "Below behind the last", impl.Below(g, impl.MaxBlocks))
	wantList(t, "Loop", impl.Loop(g, 7, 6), upTo(last)[6:]...)
	wantList(t, "Loop of the last", impl.Loop(g, last-1, last-2), last-2, last-1)
	rules, edges, pairs := impl.Rules(g), impl.Edge(g), impl.Backs(g)
	if len(rules) != impl.MaxBlocks || len(edges) != impl.MaxBlocks || len(pairs) != last || !impl.Plain(g) {
		t.Fatalf("%d, %d, %d", len(rules), len(edges), len(pairs))
	}
	for at := range rules {
		wantList(t, "Rules", rules[at], upTo(at+1)...)
	}
	wantList(t, "Edge", edges[0], 0)
	wantList(t, "Edge", edges[200], 199, 200)
	wantList(t, "Edge of the last", edges[last])
	if pairs[0] != [2]int{0, 0} || pairs[1] != [2]int{1, 0} || pairs[last-1] != [2]int{last - 1, last - 2} {
		t.Errorf("Backs %v", pairs)
	}
	wantNoReign(t, "one block more", shape(append(slices.Clone(next), []int{})...))
	// One comes into the midst of all.
	for at := 1; at < last; at++ {
		next[at] = []int{at + 1, 1 + (at+100)%last}
	}
	next[0], next[last] = []int{1, last / 2}, []int{1}
	if g := shape(next...); impl.Plain(g) {
		t.Error("is Plain")
	}
	wantRuled(t, "most blocks", shape(next...))
}

func TestLoopsAtTheEdgesOfGraphs(t *testing.T) {
	most := impl.Graph{Sizes: []int{1}, Slots: impl.MaxSlots, Blocks: bare(impl.MaxBlocks)}
	most.Blocks[0] = impl.Block{Code: gets(impl.MaxCode), To: 299}
	most.Blocks[299].To = 299
	wantList(t, "Deep", impl.Deep(most), append(make([]int, 299), 1)...)
	wantList(t, "Below", impl.Below(most, 0), 0, 299)
	for name, change := range map[string]func(g *impl.Graph){
		"one step more":   func(g *impl.Graph) { g.Blocks[0].Code = gets(impl.MaxCode + 1) },
		"one slot more":   func(g *impl.Graph) { g.Slots++ },
		"one block more":  func(g *impl.Graph) { g.Blocks = append(g.Blocks, impl.Block{}) },
		"one region more": func(g *impl.Graph) { g.Sizes = []int{1, 1, 1, 1, 1} },
	} {
		g := otherGraph(most)
		change(&g)
		wantNoReign(t, name, g)
	}
}

// wantNoReign tells of a graph that is not GraphOk.
func wantNoReign(t *testing.T, name string, g impl.Graph) {
	t.Helper()
	if impl.GraphOk(g) {
		t.Errorf("%s: is GraphOk", name)
	}
	for what, got := range map[string]int{
		"Rules": len(impl.Rules(g)), "Ruler": len(impl.Ruler(g)), "Edge": len(impl.Edge(g)),
		"Backs": len(impl.Backs(g)), "Deep": len(impl.Deep(g)),
	} {
		if got != 0 {
			t.Errorf("%s: %s tells %d", name, what, got)
		}
	}
	if impl.Plain(g) {
		t.Errorf("%s: is Plain", name)
	}
	for _, n := range append(upTo(4), farBlocks(len(g.Blocks))...) {
		wantList(t, name+": Below", impl.Below(g, n))
		for _, m := range append(upTo(4), farBlocks(len(g.Blocks))...) {
			wantList(t, name+": Loop", impl.Loop(g, n, m))
		}
	}
}

func TestLoopsOfWrongGraphs(t *testing.T) {
	for name, g := range wrongGraphs() {
		wantNoReign(t, name, g)
	}
	wantNoReign(t, "no block", impl.Graph{Sizes: []int{4}, Params: 1, Vars: 1, Slots: 3})
	for _, p := range []impl.Program{withExps(20, impl.MaxSlots-20), withBlocks(impl.MaxBlocks + 1), withSteps(impl.MaxCode + 1)} {
		wantNoReign(t, "a long program", impl.Lower(p))
	}
	// There would be loops, were it right; what is wrong of it nobody comes to.
	for _, b := range []impl.Block{
		{Jump: 3}, {Jump: -1}, {To: 4}, {To: -1}, {To: math.MaxInt}, {Jump: impl.JmIf, Else: 4}, {Jump: impl.JmIf, Else: math.MinInt},
		{Jump: impl.JmIf, A: 1}, {Jump: impl.JmRet, A: -1}, {Jump: impl.JmRet, To: 1}, {A: 1}, {Code: []impl.Instr{{Op: 7}}}, {Code: []impl.Instr{{D: 1}}},
	} {
		g := shape([]int{1}, []int{1, 2}, []int{0}, []int{})
		if len(impl.Backs(g)) != 2 {
			t.Fatal("no loops")
		}
		g.Blocks[3] = b
		wantNoReign(t, plain(b), g)
		g.Blocks[1] = b
		wantNoReign(t, plain(b), g)
	}
}

// loopGraphs are right and wrong ones.
func loopGraphs(yield func(g impl.Graph)) {
	someGraphs(func(g impl.Graph, _ []int, _ []int) { yield(g) })
	for seed := range int64(100) {
		yield(tangle(seed, 20))
	}
}

func TestLoopsWriteIntoNothing(t *testing.T) {
	loopGraphs(func(g impl.Graph) {
		g, tell := roomy(g)
		ahead := tell()
		reignOf(g)
		for at := range g.Blocks {
			impl.Below(g, at)
			impl.Loop(g, at, 0)
		}
		if tell() != ahead {
			t.Fatalf("written into: %s", plain(g))
		}
	})
}

func TestAnswersOfLoopsAreNewMemory(t *testing.T) {
	loopGraphs(func(g impl.Graph) {
		tell := func() string { return plain([]any{g, reignOf(g), impl.Below(g, 0)}) }
		ahead := tell()
		spoil(impl.Ruler(g))
		spoil(impl.Below(g, 0))
		spoil(impl.Deep(g))
		pairs := impl.Backs(g)
		for _, pair := range pairs {
			spoil(impl.Loop(g, pair[0], pair[1]))
		}
		for i := range pairs {
			pairs[i] = [2]int{-77, -77}
		}
		for what, rows := range map[string][][]int{"Rules": impl.Rules(g), "Edge": impl.Edge(g)} {
			for i, list := range rows {
				rest := plain(rows[i+1:])
				spoil(list)
				if plain(rows[i+1:]) != rest {
					t.Fatalf("two lists of %s of %s share memory", what, plain(g))
				}
			}
		}
		if tell() != ahead {
			t.Fatalf("an answer shares memory with %s", plain(g))
		}
	})
}

func TestLoopsAreToldAlikeEachTime(t *testing.T) {
	for seed := range int64(100) {
		g := tangle(seed, 30)
		want := reignOf(g)
		for range 20 {
			if got := reignOf(g); got != want {
				t.Fatalf("of\n%sis told %+v and %+v", graphText(g), want, got)
			}
		}
	}
}
