package tests

import (
	"fmt"
	"math"
	"slices"
	"strings"
	"testing"

	"loop.example/g00385/impl"
)

func numbersText(list []int) string { return strings.Trim(fmt.Sprint(list), "[]") }

// wantRow tells a list of numbers by its text.
func wantRow(t *testing.T, what string, got []int, want string) {
	t.Helper()
	if numbersText(got) != want {
		t.Errorf("%s: %v; want %s", what, got, want)
	}
}

// A plan is what is told of a graph by what it is begun with; threads is the text of Threads, - for the graph as it is.
type plan struct{ counts, chain, falls, threads string }

func wantPlan(t *testing.T, name string, g impl.Graph, args []int, input []int, want plan) {
	t.Helper()
	counts := impl.Counts(g, args, input)
	order := impl.Chain(g, counts)
	got := plan{numbersText(counts), numbersText(order), "", "-"}
	l, u := impl.Layout(g, args, input), impl.Threads(g)
	got.falls = numbersText([]int{impl.Falls(g), impl.Falls(l)})
	if !impl.SameGraph(u, g) {
		got.threads = strings.ReplaceAll(strings.TrimSuffix(impl.ShowGraph(u), "\n"), "\n", " / ")
	}
	if got != want {
		t.Errorf("%s: %+v; want %+v", name, got, want)
	}
	if plain(l) != plain(impl.Reorder(g, order)) || impl.ShowGraph(l) != reorderAgain(g, order) {
		t.Errorf("%s: Layout tells\n%s", name, plain(l))
	}
	j := newJourney(name, g, args, input)
	j.wantLaidOut(t)
	j.wantThreads(t)
}

func TestLayoutOfEachKindOfGraph(t *testing.T) {
	const join = "b0: / if s0 b1 b2 / b1: / go b3 / b2: / go b3 / b3: / ret s0"
	for _, c := range []struct {
		text  string
		args  []int
		input []int
		want  plan
	}{
		{"b0: / ret s0", []int{3}, nil, plan{"1", "0", "0 0", "-"}},
		{"b0: / s0 = r0[s0] / ret s0", []int{4}, nil, plan{"1", "0", "0 0", "-"}},
		{"b0: / go b0", nil, nil, plan{"1000", "0", "0 0", "-"}},
		{"b0: / if s0 b0 b0", []int{0}, nil, plan{"1000", "0", "0 0", "-"}},
		// Several in a row, in their order and in another one.
		{"b0: / put s0 / go b1 / b1: / s0 = 1 / go b2 / b2: / ret s0", []int{3}, nil, plan{"1 1 1", "0 1 2", "2 2", "-"}},
		{"b0: / put s0 / go b2 / b1: / s0 = 1 / ret s0 / b2: / put s0 / go b1", []int{3}, nil, plan{"1 1 1", "0 2 1", "0 2", "-"}},
		{"b0: / go b3 / b1: / go b2 / b2: / ret s0 / b3: / go b1", []int{3}, nil, plan{"1 1 1 1", "0 3 1 2", "1 3", "b0: / go b2 / b1: / go b2 / b2: / ret s0 / b3: / go b2"}},
		// An if, both ways: two that join.
		{join, []int{1}, nil, plan{"1 1 0 1", "0 1 3 2", "2 2", "b0: / if s0 b3 b3 / b1: / go b3 / b2: / go b3 / b3: / ret s0"}},
		{join, []int{0}, nil, plan{"1 0 1 1", "0 2 3 1", "2 1", "b0: / if s0 b3 b3 / b1: / go b3 / b2: / go b3 / b3: / ret s0"}},
		{"b0: / if s0 b1 b2 / b1: / put s0 / go b3 / b2: / s0 = get / go b3 / b3: / ret s0", []int{0}, []int{7}, plan{"1 0 1 1", "0 2 3 1", "2 1", "-"}},
		// A while, none, once and three times.
		{"b0: / go b1 / b1: / s0 = get / if s0 b2 b3 / b2: / put s0 / go b1 / b3: / ret s0", []int{9}, []int{0}, plan{"1 1 0 1", "0 1 3 2", "2 1", "-"}},
		{"b0: / go b1 / b1: / s0 = get / if s0 b2 b3 / b2: / put s0 / go b1 / b3: / ret s0", []int{9}, []int{4, 0}, plan{"1 2 1 1", "0 1 2 3", "2 2", "-"}},
		{"b0: / go b1 / b1: / s0 = get / if s0 b2 b3 / b2: / put s0 / go b1 / b3: / ret s0", []int{9}, []int{4, 5, 6, 0}, plan{"1 4 3 1", "0 1 2 3", "2 2", "-"}},
		// A trap ends it in the midst of a block: that is begun, the next is not.
		{"b0: / go b1 / b1: / s0 = r0[s0] / go b2 / b2: / ret s0", []int{4}, nil, plan{"1 1 0", "0 1 2", "2 2", "-"}},
		// Back to block 0, which still is the first one.
		{"b0: / if s0 b2 b1 / b1: / ret s0 / b2: / s0 = get / go b0", []int{5}, []int{3, 2, 0}, plan{"4 1 3", "0 2 1", "0 1", "-"}},
		// Nobody comes to 1, that goes to itself; and to 2.
		{"b0: / go b3 / b1: / put s0 / go b1 / b2: / put s0 / go b1 / b3: / ret s0", []int{5}, nil, plan{"1 0 0 1", "0 3 1 2", "0 1", "-"}},
	} {
		wantPlan(t, c.text, graphOf(t, len(c.args), 1, c.text), c.args, c.input, c.want)
	}
}

func TestLayoutOfPrograms(t *testing.T) {
	for _, c := range []struct {
		body  string
		args  []int
		input []int
		want  plan
	}{
		{"", []int{0, 0}, nil, plan{"1", "0", "0 0", "-"}},
		{"return x; put y;", []int{0, 0}, nil, plan{"1 0", "0 1", "0 0", "-"}},
		{"if x { put 1; } else { put 2; }", []int{1, 0}, nil, plan{"1 1 0 1", "0 1 3 2", "2 2", "-"}},
		{"if x { put 1; } else { put 2; }", []int{0, 0}, nil, plan{"1 0 1 1", "0 2 3 1", "2 1", "-"}},
		{"while x { x = x - 1; }", []int{3, 0}, nil, plan{"1 4 3 1", "0 1 2 3", "2 2", "-"}},
		{"while x { x = x - 1; }", []int{0, 0}, nil, plan{"1 1 0 1", "0 1 3 2", "2 1", "-"}},
		{"while x { x = x - 1; y = 3; while y { y = y - 1; } put x; }", []int{2, 0}, nil, plan{"1 3 2 8 6 2 1", "0 1 2 3 4 5 6", "4 4", "-"}},
		// Behind 5 the one that it goes back to is there already: the least that is not comes.
		{"while x { if y { put 1; } else { put 2; } x = x - 1; } put 3;", []int{2, 0}, nil, plan{"1 3 2 0 2 2 1", "0 1 2 4 5 3 6", "4 3", "-"}},
		{"while x { if y { put 1; } else { put 2; } x = x - 1; } put 3;", []int{2, 1}, nil, plan{"1 3 2 2 0 2 1", "0 1 2 3 5 4 6", "4 4", "-"}},
		{"while get { if get { put 1; } else { put 2; } }", []int{0, 0}, []int{1, 0, 1, 0, 1, 1, 0}, plan{"1 4 3 1 2 3 1", "0 1 2 4 5 3 6", "4 3",
			"b0: / go b1 / b1: / s2 = get / if s2 b2 b6 / b2: / s3 = get / if s3 b3 b4 / b3: / s4 = 1 / put s4 / go b1 / b4: / s5 = 2 / put s5 / go b1 / b5: / go b1 / b6: / s6 = 0 / ret s6"}},
	} {
		wantPlan(t, c.body, impl.Lower(parsed(t, body(c.body))), c.args, c.input, c.want)
	}
}

func TestCountsOf1000BlocksAndMore(t *testing.T) {
	g := graphOf(t, 1, 2, "b0: / s1 = 1 / go b2 / b1: / ret s1 / b2: / s0 = s0 - s1 / if s0 b2 b3 / b3: / go b1")
	// A run of N rounds begins N + 3; of one that begins more the last ones do not count.
	for rounds, want := range map[int]string{1: "1 1 1 1", 3: "1 1 3 1", 996: "1 1 996 1", 997: "1 1 997 1", 998: "1 0 998 1", 999: "1 0 999 0", 5000: "1 0 999 0", -1: "1 0 999 0"} {
		wantRow(t, fmt.Sprint(rounds, " rounds"), impl.Counts(g, []int{rounds}, nil), want)
	}
	for name, c := range map[string]struct {
		g    impl.Graph
		want string
	}{
		"to itself":            {shape([]int{0}), "1000"},
		"to itself both ways":  {shape([]int{0, 0}), "1000"},
		"two":                  {shape([]int{1}, []int{0}), "500 500"},
		"three":                {shape([]int{1}, []int{2}, []int{0}), "334 333 333"},
		"into two":             {shape([]int{1}, []int{2}, []int{1}), "1 500 499"},
		"nobody comes to one":  {shape([]int{2}, []int{0}, []int{2}), "1 0 999"},
		"one that never comes": {shape([]int{1, 1}, []int{2, 1}, []int{}), "1 999 0"},
	} {
		wantRow(t, name, impl.Counts(c.g, nil, nil), c.want)
		wantList(t, name, impl.Counts(c.g, nil, nil), countsAgain(c.g, impl.Path(c.g, nil, nil, 1000))...)
	}
}

func TestCountsEndWithFuel(t *testing.T) {
	g := impl.Graph{Sizes: []int{1}, Slots: 1, Blocks: bare(1)}
	// A round takes 1001: the last one is begun and not ended.
	g.Blocks[0].Code = gets(impl.MaxCode)
	wantRow(t, "1000 steps", impl.Counts(g, nil, nil), "100")
	// A round takes 1000: behind the last one there is no fuel, but the block is gone to.
	g.Blocks[0].Code = gets(impl.MaxCode - 1)
	wantRow(t, "999 steps", impl.Counts(g, nil, nil), "101")
	for _, steps := range []int{97, 98, 99, 100, 101, 500} {
		g.Blocks[0].Code = gets(steps)
		wantList(t, fmt.Sprint(steps, " steps"), impl.Counts(g, nil, nil), len(impl.Path(g, nil, nil, 1000)))
	}
}

func TestCountsAreWhatIsToldOfEachLine(t *testing.T) {
	t.Parallel()
	ended, long := 0, 0
	for kind, make := range []func(seed int64) (impl.Graph, []int, []int){madeGraph, knotGraph, factGraph} {
		for seed := range int64(seeds / 10) {
			g, args, input := make(seed)
			s := strolled(g, args, input, 4000)
			if s.end.Code == impl.EndFuel && len(s.path) < 1000 {
				continue
			}
			wantList(t, fmt.Sprint("kind ", kind, " seed ", seed), impl.Counts(g, args, input), countsAgain(g, s.path)...)
			if s.end.Code == impl.EndFuel {
				long++
			} else {
				ended++
			}
		}
	}
	if ended < seeds/6 || long < seeds/60 {
		t.Errorf("%d end, %d do not", ended, long)
	}
}

// wantOrder tells whether a list is an order of a graph; where it is none, the graph stays as it is.
func wantOrder(t *testing.T, name string, g impl.Graph, order []int, want bool) {
	t.Helper()
	if got := impl.OrderOk(g, order); got != want {
		t.Errorf("%s: OrderOk of %d blocks and %v is %v", name, len(g.Blocks), order, got)
	}
	if want {
		wantOrdered(t, name, g, order)
	} else if got := impl.Reorder(g, order); plain(got) != plain(g) || !impl.SameGraph(got, g) {
		t.Errorf("%s: Reorder by %v of %s is %s", name, order, plain(g), plain(got))
	}
}

// lists tells all lists of at most so many of these numbers.
func lists(numbers []int, most int, yield func(list []int)) {
	var pick func(list []int)
	pick = func(list []int) {
		yield(slices.Clone(list))
		if len(list) < most {
			for _, n := range numbers {
				pick(append(list, n))
			}
		}
	}
	pick(nil)
}

func TestOrderOkOfAllShortLists(t *testing.T) {
	for name, g := range map[string]impl.Graph{
		"one":   shape([]int{}),
		"two":   shape([]int{1}, []int{0, 1}),
		"three": shape([]int{2}, []int{}, []int{1, 0}),
	} {
		count, n := 0, len(g.Blocks)
		lists([]int{-1, 0, 1, 2, 3}, 4, func(list []int) {
			right := len(list) == n && list[0] == 0 && orderAgain(g, list)
			if right {
				count++
			}
			wantOrder(t, name, g, list, right)
		})
		if want := []int{1, 1, 2}[n-1]; count != want {
			t.Errorf("%s: %d orders", name, count)
		}
	}
	count := 0
	g := shape([]int{3, 4}, []int{0}, []int{}, []int{1, 2}, []int{3})
	lists(upTo(5), 5, func(list []int) {
		right := len(list) == 5 && list[0] == 0 && orderAgain(g, list)
		if right {
			count++
		}
		if impl.OrderOk(g, list) != right {
			t.Errorf("OrderOk of %v", list)
		}
	})
	if count != 24 {
		t.Errorf("%d orders", count)
	}
}

func TestOrderOkAtTheEdges(t *testing.T) {
	next := [][]int{}
	for at := range impl.MaxBlocks {
		next = append(next, []int{(at + 7) % impl.MaxBlocks, impl.MaxBlocks - 1 - at})
	}
	g := shape(next...)
	whole := upTo(impl.MaxBlocks)
	wantOrder(t, "all", g, whole, true)
	for name, change := range map[string]func(order []int) []int{
		"backward behind 0":   func(order []int) []int { slices.Reverse(order[1:]); return order },
		"the last two":        func(order []int) []int { order[298], order[299] = order[299], order[298]; return order },
		"the second two":      func(order []int) []int { order[1], order[2] = order[2], order[1]; return order },
		"0 ahead of the last": func(order []int) []int { return append([]int{0}, append(order[200:], order[1:200]...)...) },
	} {
		wantOrder(t, name, g, change(slices.Clone(whole)), true)
	}
	for name, change := range map[string]func(order []int) []int{
		"none":             func(order []int) []int { return nil },
		"empty":            func(order []int) []int { return order[:0] },
		"one left out":     func(order []int) []int { return order[:299] },
		"0 left out":       func(order []int) []int { return order[1:] },
		"one too many":     func(order []int) []int { return append(order, 300) },
		"one twice more":   func(order []int) []int { return append(order, 7) },
		"one twice":        func(order []int) []int { order[8] = 7; return order },
		"0 twice":          func(order []int) []int { order[8] = 0; return order },
		"the last twice":   func(order []int) []int { order[1] = 299; return order },
		"one that is none": func(order []int) []int { order[299] = 300; return order },
		"one below 0":      func(order []int) []int { order[8] = -1; return order },
		"a far one":        func(order []int) []int { order[8] = math.MaxInt; return order },
		"a far one below":  func(order []int) []int { order[8] = math.MinInt; return order },
		"all far":          func(order []int) []int { return slices.Repeat([]int{math.MaxInt}, 300) },
		"all 0":            func(order []int) []int { return make([]int, 300) },
		"0 elsewhere":      func(order []int) []int { order[0], order[1] = 1, 0; return order },
		"0 at last":        func(order []int) []int { order[0], order[299] = 299, 0; return order },
		"backward":         func(order []int) []int { slices.Reverse(order); return order },
		"far too many":     func(order []int) []int { return slices.Repeat(order, 100) },
	} {
		wantOrder(t, name, g, change(slices.Clone(whole)), false)
	}
	// Of a graph that is not GraphOk none is an order.
	wantNoLayout(t, "one block more", shape(append(next, []int{})...))
}

func TestReorderTellsNumbersAnew(t *testing.T) {
	for _, c := range []struct{ text, order, want string }{
		{"b0: / ret s0", "0", "b0: / ret s0"},
		{"b0: / if s0 b2 b1 / b1: / ret s0 / b2: / put s0 / go b1", "0 2 1", "b0: / if s0 b1 b2 / b1: / put s0 / go b2 / b2: / ret s0"},
		{"b0: / go b0 / b1: / go b1 / b2: / if s1 b2 b0", "0 2 1", "b0: / go b0 / b1: / if s1 b1 b0 / b2: / go b2"},
		{"b0: / if s0 b1 b1 / b1: / s1 = 4 / go b2 / b2: / r0[s1] = s0 / if s1 b3 b0 / b3: / ret s1", "0 3 1 2", "b0: / if s0 b2 b2 / b1: / ret s1 / b2: / s1 = 4 / go b3 / b3: / r0[s1] = s0 / if s1 b1 b0"},
		{"b0: / put s0 / ret s1 / b1: / ret s0 / b2: / s1 = s0 + s1 / go b1 / b3: / s1 = get / go b2", "0 3 2 1", "b0: / put s0 / ret s1 / b1: / s1 = get / go b2 / b2: / s1 = s0 + s1 / go b3 / b3: / ret s0"},
		{"b0: / go b1 / b1: / go b2 / b2: / go b3 / b3: / go b0", "0 2 3 1", "b0: / go b3 / b1: / go b2 / b2: / go b0 / b3: / go b1"},
	} {
		g, order := graphOf(t, 2, 2, c.text), []int{}
		for _, word := range strings.Fields(c.order) {
			n, _ := impl.ReadInt(word)
			order = append(order, n)
		}
		got, want := impl.Reorder(g, order), graphOf(t, 2, 2, c.want)
		if plain(got) != plain(want) || !impl.SameGraph(got, want) {
			t.Errorf("Reorder by %s of %q tells %s; want %s", c.order, c.text, plain(got), plain(want))
		}
	}
	// Each kind of step and of Jump, and what is told of the graph, stays as it is.
	wantOrder(t, "each kind", sample(), []int{0, 2, 1}, true)
	got := impl.Reorder(sample(), []int{0, 2, 1})
	want := sample()
	want.Blocks[1], want.Blocks[2] = want.Blocks[2], want.Blocks[1]
	want.Blocks[0].To, want.Blocks[0].Else, want.Blocks[2].To = 1, 2, 1
	if plain(got) != plain(want) {
		t.Errorf("each kind: %s; want %s", plain(got), plain(want))
	}
}

func TestChainByCounts(t *testing.T) {
	const most, least = math.MaxInt, math.MinInt
	fork := shape([]int{2, 1}, []int{3}, []int{3}, []int{})
	for _, c := range []struct {
		name   string
		g      impl.Graph
		counts []int
		want   string
	}{
		{"one block", shape([]int{}), []int{0}, "0"},
		{"one block to itself", shape([]int{0}), []int{9}, "0"},
		{"a row", shape([]int{2}, []int{}, []int{3}, []int{1}), []int{1, 1, 1, 1}, "0 2 3 1"},
		{"the greater one", fork, []int{0, 1, 2, 3}, "0 2 3 1"},
		{"the greater one is Else", fork, []int{0, 2, 1, 3}, "0 1 3 2"},
		{"greater by one, far up", fork, []int{0, most, most - 1, 0}, "0 1 3 2"},
		{"greater by one, far below", fork, []int{0, least + 1, least, 0}, "0 1 3 2"},
		{"the farthest", fork, []int{0, most, least, 0}, "0 1 3 2"},
		{"the farthest, the other way", fork, []int{0, least, most, 0}, "0 2 3 1"},
		// Of equal ones the first of Next, not the least.
		{"equal", fork, []int{1, 1, 1, 1}, "0 2 3 1"},
		{"all 0", fork, []int{0, 0, 0, 0}, "0 2 3 1"},
		{"equal, below 0", fork, []int{-1, -1, -1, -1}, "0 2 3 1"},
		{"the least of all", fork, []int{least, least, least, least}, "0 2 3 1"},
		{"equal, at most", fork, []int{most, most, most, most}, "0 2 3 1"},
		{"below 0", fork, []int{0, -2, -3, 0}, "0 1 3 2"},
		{"0 and below", fork, []int{5, -1, 0, 5}, "0 2 3 1"},
		{"above 0 and below", fork, []int{5, 1, -5, 5}, "0 1 3 2"},
		// However low it counts, one that it goes to comes ahead of one that it does not go to.
		{"low", shape([]int{3}, []int{}, []int{}, []int{}), []int{9, 9, 9, -9}, "0 3 1 2"},
		{"as low as can be", shape([]int{3}, []int{}, []int{}, []int{}), []int{most, most, most, least}, "0 3 1 2"},
		{"block 0 counts least", shape([]int{1}, []int{}), []int{least, most}, "0 1"},
		// One that is there already does not come again, however much it counts.
		{"to itself and on", shape([]int{0, 2}, []int{}, []int{}), []int{9, 1, 1}, "0 2 1"},
		{"back, and on", shape([]int{2}, []int{}, []int{0, 3}, []int{}), []int{9, 5, 5, 1}, "0 2 3 1"},
		{"all are there", shape([]int{2}, []int{}, []int{0, 2}, []int{}), []int{9, 1, 9, 8}, "0 2 1 3"},
		{"goes to none", shape([]int{3}, []int{2}, []int{}, []int{}), []int{9, 1, 8, 9}, "0 3 1 2"},
		{"goes to none, and none comes to them", shape([]int{}, []int{}, []int{}, []int{}), []int{1, 2, 3, 4}, "0 1 2 3"},
		{"the least goes on", shape([]int{}, []int{3}, []int{}, []int{}), []int{0, 0, 9, 0}, "0 1 3 2"},
		{"the least, twice", shape([]int{4}, []int{3}, []int{}, []int{0}, []int{}), []int{0, 0, 9, 0, 0}, "0 4 1 3 2"},
		{"the least is not the one behind", shape([]int{3}, []int{}, []int{}, []int{3}, []int{}), []int{0, 0, 0, 0, 0}, "0 3 1 2 4"},
		{"both ways one", shape([]int{2, 2}, []int{}, []int{1, 1}), []int{0, 0, 0}, "0 2 1"},
		{"both ways itself", shape([]int{0, 0}, []int{1, 1}, []int{}), []int{1, 2, 3}, "0 1 2"},
		{"one way is there", shape([]int{1, 2}, []int{2, 0}, []int{3, 1}, []int{}), []int{5, 4, 4, 0}, "0 1 2 3"},
	} {
		wantRow(t, c.name, impl.Chain(c.g, c.counts), c.want)
		wantChain(t, c.name, c.g, c.counts)
		// One more, one less, and none.
		for _, counts := range [][]int{c.counts[1:], c.counts[:len(c.counts)-1], append(slices.Clone(c.counts), 0), append(c.counts, c.counts...), nil, {}} {
			wantRow(t, c.name, impl.Chain(c.g, counts), "")
		}
	}
}

func TestChainOfMostBlocks(t *testing.T) {
	next, counts, order := [][]int{}, []int{}, []int{0}
	for at := range impl.MaxBlocks {
		next, counts = append(next, []int{(at + 1) % impl.MaxBlocks, (at + impl.MaxBlocks - 1) % impl.MaxBlocks}), append(counts, at)
	}
	// Behind block 0 comes the last one, which counts most, and so on back.
	for at := impl.MaxBlocks - 1; at > 0; at-- {
		order = append(order, at)
	}
	g := shape(next...)
	wantList(t, "back", impl.Chain(g, counts), order...)
	wantList(t, "equal", impl.Chain(g, make([]int, impl.MaxBlocks)), upTo(impl.MaxBlocks)...)
	if impl.Falls(g) != impl.MaxBlocks-1 || impl.Falls(impl.Reorder(g, order)) != 0 {
		t.Errorf("Falls %d and %d", impl.Falls(g), impl.Falls(impl.Reorder(g, order)))
	}
}

func TestFallsOfShapes(t *testing.T) {
	for _, c := range []struct {
		name string
		g    impl.Graph
		want int
	}{
		{"one that ends", shape([]int{}), 0},
		{"one to itself", shape([]int{0}), 0},
		{"one to itself both ways", shape([]int{0, 0}), 0},
		{"on", shape([]int{1}, []int{}), 1},
		{"on, and back", shape([]int{1}, []int{0}), 1},
		{"on, and to itself", shape([]int{1}, []int{1}), 1},
		{"past one", shape([]int{2}, []int{}, []int{}), 0},
		{"To is next", shape([]int{1, 2}, []int{}, []int{}), 1},
		{"Else is next", shape([]int{2, 1}, []int{}, []int{}), 0},
		{"both are next", shape([]int{1, 1}, []int{}), 1},
		{"Else of the last ones", shape([]int{1, 0}, []int{0, 2}, []int{1, 2}), 1},
		// Behind the last one there is none, and block 0 is not next to it.
		{"the last to the first", shape([]int{1}, []int{2}, []int{0}), 2},
		{"the last to the first, by an if", shape([]int{1, 0}, []int{2, 0}, []int{0, 0}), 2},
		{"an end ahead of the last", shape([]int{}, []int{2}, []int{}), 1},
		{"nobody comes to it", shape([]int{}, []int{2}, []int{3, 0}, []int{}), 2},
		{"none", shape([]int{2, 1}, []int{0}, []int{1, 3}, []int{}), 0},
	} {
		if got := impl.Falls(c.g); got != c.want {
			t.Errorf("%s: Falls is %d; want %d", c.name, got, c.want)
		}
		wantFalls(t, c.name, c.g)
	}
	// Steps do not count.
	if got := impl.Falls(graphOf(t, 1, 1, "b0: / put s0 / go b1 / b1: / s0 = get / if s0 b2 b0 / b2: / ret s0")); got != 2 {
		t.Errorf("with steps: %d", got)
	}
}

func TestThreadsOfEachKnot(t *testing.T) {
	for _, c := range []struct{ name, text, want string }{
		{"an empty one", "b0: / if s0 b1 b2 / b1: / go b3 / b2: / put s0 / go b1 / b3: / ret s0", "b0: / if s0 b3 b2 / b1: / go b3 / b2: / put s0 / go b3 / b3: / ret s0"},
		{"by Else", "b0: / if s0 b3 b1 / b1: / go b2 / b2: / put s0 / ret s0 / b3: / ret s0", "b0: / if s0 b3 b2 / b1: / go b2 / b2: / put s0 / ret s0 / b3: / ret s0"},
		{"several", "b0: / go b1 / b1: / go b2 / b2: / go b3 / b3: / go b4 / b4: / ret s0", "b0: / go b4 / b1: / go b4 / b2: / go b4 / b3: / go b4 / b4: / ret s0"},
		{"several, back", "b0: / go b4 / b1: / ret s0 / b2: / go b1 / b3: / go b2 / b4: / go b3", "b0: / go b1 / b1: / ret s0 / b2: / go b1 / b3: / go b1 / b4: / go b1"},
		{"by both ways", "b0: / put s0 / if s0 b1 b2 / b1: / go b2 / b2: / go b3 / b3: / ret s0", "b0: / put s0 / if s0 b3 b3 / b1: / go b3 / b2: / go b3 / b3: / ret s0"},
		{"itself", "b0: / go b0", "b0: / go b0"},
		{"into one that goes to itself", "b0: / if s0 b1 b2 / b1: / go b1 / b2: / go b1", "b0: / if s0 b1 b1 / b1: / go b1 / b2: / go b1"},
		// Of two that go around each is where the other one's way ends, and so each goes to itself.
		{"two", "b0: / if s0 b1 b2 / b1: / go b2 / b2: / go b1", "b0: / if s0 b2 b1 / b1: / go b1 / b2: / go b2"},
		{"two with block 0", "b0: / go b1 / b1: / go b0", "b0: / go b0 / b1: / go b1"},
		{"into two", "b0: / put s0 / go b3 / b1: / go b2 / b2: / go b1 / b3: / go b1", "b0: / put s0 / go b2 / b1: / go b1 / b2: / go b2 / b3: / go b2"},
		{"three", "b0: / go b1 / b1: / go b2 / b2: / go b0", "b0: / go b0 / b1: / go b1 / b2: / go b2"},
		{"three, the other way", "b0: / go b2 / b1: / go b0 / b2: / go b1", "b0: / go b0 / b1: / go b1 / b2: / go b2"},
		{"into three", "b0: / go b4 / b1: / go b2 / b2: / go b3 / b3: / go b1 / b4: / go b2", "b0: / go b1 / b1: / go b1 / b2: / go b2 / b3: / go b3 / b4: / go b1"},
		{"into three, each", "b0: / s0 = get / if s0 b1 b2 / b1: / go b2 / b2: / go b3 / b3: / go b1", "b0: / s0 = get / if s0 b3 b1 / b1: / go b1 / b2: / go b2 / b3: / go b3"},
		{"three around one with a step", "b0: / go b1 / b1: / put s0 / go b2 / b2: / go b3 / b3: / go b1", "b0: / go b1 / b1: / put s0 / go b1 / b2: / go b1 / b3: / go b1"},
		{"around by itself alone", "b0: / go b1 / b1: / put s0 / go b1", "b0: / go b1 / b1: / put s0 / go b1"},
		// Block 0 is one like others, where it is gone to.
		{"by block 0", "b0: / go b2 / b1: / put s0 / go b0 / b2: / s0 = get / if s0 b0 b1", "b0: / go b2 / b1: / put s0 / go b2 / b2: / s0 = get / if s0 b2 b1"},
		// What a Jump has not stays 0, though block 0 only goes on.
		{"by block 0, without Else", "b0: / go b1 / b1: / put s0 / go b2 / b2: / put s0 / ret s0", "b0: / go b1 / b1: / put s0 / go b2 / b2: / put s0 / ret s0"},
		{"an empty if", "b0: / go b1 / b1: / if s0 b2 b2 / b2: / ret s0", "b0: / go b1 / b1: / if s0 b2 b2 / b2: / ret s0"},
		{"an empty end", "b0: / go b1 / b1: / ret s0", "b0: / go b1 / b1: / ret s0"},
		{"one with a step", "b0: / go b1 / b1: / s0 = s0 / go b2 / b2: / s0 = get / go b3 / b3: / ret s0", "b0: / go b1 / b1: / s0 = s0 / go b2 / b2: / s0 = get / go b3 / b3: / ret s0"},
		{"up to one with a step", "b0: / go b1 / b1: / go b2 / b2: / put s0 / go b3 / b3: / go b4 / b4: / ret s0", "b0: / go b2 / b1: / go b2 / b2: / put s0 / go b4 / b3: / go b4 / b4: / ret s0"},
		{"up to an if", "b0: / go b1 / b1: / go b2 / b2: / if s0 b1 b3 / b3: / go b4 / b4: / ret s0", "b0: / go b2 / b1: / go b2 / b2: / if s0 b2 b4 / b3: / go b4 / b4: / ret s0"},
		{"nobody comes to them", "b0: / ret s0 / b1: / go b2 / b2: / go b3 / b3: / ret s0", "b0: / ret s0 / b1: / go b3 / b2: / go b3 / b3: / ret s0"},
	} {
		g := graphOf(t, 1, 1, c.text)
		if got, want := impl.Threads(g), graphOf(t, 1, 1, c.want); plain(got) != plain(want) || !impl.SameGraph(got, want) {
			t.Errorf("%s: Threads of %q tells %s; want %s", c.name, c.text, plain(got), plain(want))
		}
		wantThreaded(t, c.name, g)
		for _, n := range []int{0, 1, -1} {
			newJourney(c.name, g, []int{n}, []int{1, 0, 5, 0}).wantThreads(t)
		}
	}
}

func TestThreadsOfMostBlocks(t *testing.T) {
	row, ring := [][]int{}, [][]int{}
	for at := range impl.MaxBlocks {
		row, ring = append(row, []int{at + 1}), append(ring, []int{(at + 1) % impl.MaxBlocks})
	}
	row[impl.MaxBlocks-1] = []int{}
	u, o := impl.Threads(shape(row...)), impl.Threads(shape(ring...))
	for at := range impl.MaxBlocks - 1 {
		if u.Blocks[at].To != impl.MaxBlocks-1 || o.Blocks[at].To != at {
			t.Fatalf("block %d goes to %d, around to %d", at, u.Blocks[at].To, o.Blocks[at].To)
		}
	}
	if got := impl.Steps(u, nil, nil); got != 2 || impl.Steps(shape(row...), nil, nil) != impl.MaxBlocks || impl.Falls(u) != 1 || !impl.GraphOk(o) {
		t.Errorf("it takes %d; %d fall", got, impl.Falls(u))
	}
	wantNoLayout(t, "one block more", shape(append(row, []int{})...))
}

// wantNoLayout tells of a graph that is not GraphOk: it stays as it is, and nothing is told of it.
func wantNoLayout(t *testing.T, name string, g impl.Graph) {
	t.Helper()
	if impl.GraphOk(g) {
		t.Errorf("%s: is GraphOk", name)
	}
	n := len(g.Blocks)
	for _, order := range [][]int{upTo(n), nil, {}, {0}, upTo(n + 1), upTo(max(0, n-1)), make([]int, n), {0, 2, 1}} {
		wantOrder(t, name, g, order, false)
		wantRow(t, name+": Chain", impl.Chain(g, order), "")
	}
	for _, args := range [][]int{make([]int, max(0, min(g.Params, 9))), nil, {1}, {1, 2}, make([]int, 7)} {
		for _, input := range [][]int{nil, {1, 2}, make([]int, 101)} {
			wantSameLaid(t, name, g, args, input)
		}
	}
	if got := impl.Falls(g); got != -1 {
		t.Errorf("%s: Falls is %d", name, got)
	}
	if got := impl.Threads(g); plain(got) != plain(g) || !impl.SameGraph(got, g) {
		t.Errorf("%s: Threads tells %s; want %s", name, plain(got), plain(g))
	}
}

// wantSameLaid tells that a graph with these is begun by no walk.
func wantSameLaid(t *testing.T, name string, g impl.Graph, args []int, input []int) {
	t.Helper()
	wantRow(t, name+": Counts", impl.Counts(g, args, input), "")
	if got := impl.Layout(g, args, input); plain(got) != plain(g) || !impl.SameGraph(got, g) {
		t.Errorf("%s: Layout tells %s; want %s", name, plain(got), plain(g))
	}
}

func TestLayoutOfWrongArgs(t *testing.T) {
	for params := range 7 {
		// With right ones it comes to stand in another order.
		g := shape([]int{2}, []int{}, []int{1})
		g.Params, g.Vars, g.Slots = params, 7, 7
		for n := range 10 {
			args := make([]int, n)
			if n != params {
				wantSameLaid(t, fmt.Sprintf("%d of %d args", n, params), g, args, nil)
				continue
			}
			wantRow(t, "Counts", impl.Counts(g, args, nil), "1 1 1")
			wantRow(t, "100 numbers", impl.Counts(g, args, make([]int, 100)), "1 1 1")
			if got := impl.Layout(g, args, make([]int, 100)); got.Blocks[0].To != 1 || got.Blocks[1].To != 2 {
				t.Errorf("Layout tells %s", plain(got))
			}
			for _, more := range []int{101, 102, 5000} {
				wantSameLaid(t, fmt.Sprint(more, " numbers"), g, args, make([]int, more))
			}
		}
	}
	wantSameLaid(t, "args and input", shape([]int{1}, []int{}), make([]int, 1), make([]int, 101))
}

func TestLayoutOfWrongGraphs(t *testing.T) {
	for name, g := range wrongGraphs() {
		wantNoLayout(t, name, g)
	}
	wantNoLayout(t, "no block", impl.Graph{Sizes: []int{4}, Slots: 3})
	for _, p := range []impl.Program{withExps(20, impl.MaxSlots-20), withBlocks(impl.MaxBlocks + 1), withSteps(impl.MaxCode + 1)} {
		wantNoLayout(t, "a long program", impl.Lower(p))
	}
	// It is wrong, though no walk comes to it, and there is much to be told of the others.
	for _, b := range []impl.Block{
		{Jump: 3}, {Jump: -1}, {To: 4}, {To: -1}, {To: math.MaxInt}, {To: math.MinInt}, {Jump: impl.JmIf, Else: 4}, {Jump: impl.JmIf, Else: math.MinInt},
		{Jump: impl.JmIf, A: 1}, {Jump: impl.JmRet, A: -1}, {Jump: impl.JmRet, To: 1}, {A: 1}, {Else: 1}, {Code: []impl.Instr{{Op: 7}}}, {Code: []impl.Instr{{D: 1}}},
	} {
		g := shape([]int{2}, []int{1}, []int{1}, []int{})
		if plain(impl.Threads(g)) == plain(g) || plain(impl.Layout(g, nil, nil)) == plain(g) {
			t.Fatal("nothing is told anew")
		}
		g.Blocks[3] = b
		wantNoLayout(t, plain(b), g)
		g.Blocks[2] = b
		wantNoLayout(t, plain(b), g)
	}
}

// layoutGraphs are right and wrong ones, with what they are begun with, and an order that may be none.
func layoutGraphs(yield func(g impl.Graph, args []int, input []int, order []int)) {
	n := 0
	each := func(g impl.Graph, args []int, input []int) {
		order := upTo(len(g.Blocks))
		if n++; n%5 > 0 && len(order) > 0 {
			slices.Reverse(order[min(1, n%7):])
		}
		yield(g, args, input, order)
	}
	someGraphs(each)
	for seed := range int64(100) {
		each(knotGraph(seed))
	}
}

// laidOut tells all that is answered of a graph.
func laidOut(g impl.Graph, args []int, input []int, order []int) string {
	return plain([]any{impl.Counts(g, args, input), impl.OrderOk(g, order), impl.Reorder(g, order), impl.Chain(g, order), impl.Layout(g, args, input), impl.Falls(g), impl.Threads(g)})
}

func TestLayoutWritesIntoNothing(t *testing.T) {
	layoutGraphs(func(g impl.Graph, args []int, input []int, order []int) {
		g, tell := roomy(g)
		args, input, order = roomyList(args), roomyList(input), roomyList(order)
		all := func() string {
			return tell() + plain(args[:cap(args)]) + plain(input[:cap(input)]) + plain(order[:cap(order)])
		}
		ahead := all()
		laidOut(g, args, input, order)
		if all() != ahead {
			t.Fatalf("written into: %s", plain(g))
		}
	})
}

func TestAnswersOfLayoutAreNewMemory(t *testing.T) {
	layoutGraphs(func(g impl.Graph, args []int, input []int, order []int) {
		tell := func() string { return plain([]any{g, args, input, order}) + laidOut(g, args, input, order) }
		ahead := tell()
		for what, u := range map[string]impl.Graph{"Reorder": impl.Reorder(g, order), "Layout": impl.Layout(g, args, input), "Threads": impl.Threads(g)} {
			wantNewGraph(t, what, g, u)
		}
		spoil(impl.Counts(g, args, input))
		spoil(impl.Chain(g, order))
		if tell() != ahead {
			t.Fatalf("an answer shares memory with %s", plain(g))
		}
	})
	// Where an argument's lists share memory, those of the answer do not.
	code := append(make([]impl.Instr, 0, 9), impl.Instr{Op: impl.InGet})
	blocks := bare(2)
	blocks[0].Code, blocks[1].Code = code, code
	blocks[0].To = 1
	for _, g := range []impl.Graph{{Sizes: []int{1}, Slots: 1, Blocks: blocks}, {Blocks: blocks}} {
		for what, u := range map[string]impl.Graph{"Reorder": impl.Reorder(g, upTo(2)), "Layout": impl.Layout(g, nil, nil), "Threads": impl.Threads(g), "no order": impl.Reorder(g, nil)} {
			u.Blocks[0].Code[0].D = 9
			if u.Blocks[1].Code[0].D == 9 || code[0].D == 9 {
				t.Errorf("%s keeps what lists share", what)
			}
		}
	}
}

// wantNewGraph tells that a graph that was made of another one shares no memory with it, and that its lists share none; it writes over all of it.
func wantNewGraph(t *testing.T, what string, g impl.Graph, u impl.Graph) {
	t.Helper()
	want := plain(u)
	_ = append(u.Sizes, -7)
	_ = append(u.Blocks, impl.Block{Jump: -7})
	for _, b := range u.Blocks {
		_ = append(b.Code, impl.Instr{Op: -7})
		for _, x := range b.Code {
			for _, y := range stepsOf(g) {
				if within(x.Text, y.Text) {
					t.Fatalf("a sign of %s shares memory with %s", what, plain(g))
				}
			}
		}
	}
	if plain(u) != want {
		t.Fatalf("two lists of %s of %s share memory", what, plain(g))
	}
	spoilGraph(u)
}

func TestLayoutIsToldAlikeEachTime(t *testing.T) {
	layoutGraphs(func(g impl.Graph, args []int, input []int, order []int) {
		want := laidOut(g, args, input, order)
		for range 5 {
			if got := laidOut(g, args, input, order); got != want {
				t.Fatalf("%s is told %s and %s", plain(g), want, got)
			}
		}
	})
}
