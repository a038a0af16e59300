package tests

import (
	"fmt"
	"math"
	"math/rand"
	"slices"
	"testing"

	"loop.example/g00385/impl"
)

// A journey is what a graph that is GraphOk is begun with, and how it ends with each of some fuels.
type journey struct {
	name  string
	g     impl.Graph
	args  []int
	input []int
	steps int
	done  bool
	fuels []int
	ends  []impl.End
}

func newJourney(name string, g impl.Graph, args []int, input []int) journey {
	j := journey{name: name, g: g, args: args, input: input}
	j.fuels = []int{0, 1, 2, 3, 4, 5, 6, 8, 11, 17, 29, 60, 200}
	// What does not end by then is taken as what never does: all its fuel would take long.
	if j.done = impl.Walk(g, args, input, 3000).Code != impl.EndFuel; j.done {
		j.steps = impl.Steps(g, args, input)
		j.fuels = append(j.fuels, max(0, j.steps-2), j.steps-1, j.steps, j.steps+1, impl.MaxFuel)
	}
	for _, fuel := range j.fuels {
		j.ends = append(j.ends, impl.Walk(g, args, input, fuel))
	}
	return j
}

// wantAsIs tells that a graph does the same with each fuel: nothing is done less, and nothing more.
func (j journey) wantAsIs(t *testing.T, what string, g impl.Graph) {
	t.Helper()
	if !impl.GraphOk(g) {
		t.Fatalf("%s: %s of\n%sis not GraphOk: %s", j.name, what, graphText(j.g), plain(g))
	}
	for i, fuel := range j.fuels {
		if got := impl.Walk(g, j.args, j.input, fuel); !impl.SameEnd(got, j.ends[i]) {
			t.Fatalf("%s: %s of\n%swith %v / %v and %d of fuel ends %+v; without %+v", j.name, what, graphText(j.g), j.args, j.input, fuel, got, j.ends[i])
		}
	}
	if !j.done {
		return
	}
	if got := impl.Steps(g, j.args, j.input); got != j.steps {
		t.Fatalf("%s: %s of\n%stakes %d; without %d", j.name, what, graphText(j.g), got, j.steps)
	}
}

// wantReorders tells all that is said of some orders of a graph.
func (j journey) wantReorders(t *testing.T, r *rand.Rand) {
	t.Helper()
	someOrders(r, len(j.g.Blocks), func(order []int) {
		what := fmt.Sprint("Reorder by ", order)
		g := wantOrdered(t, j.name, j.g, order)
		j.wantAsIs(t, what, g)
		path := []int{}
		for _, at := range impl.Path(g, j.args, j.input, 60) {
			path = append(path, order[at])
		}
		wantList(t, j.name+": Path of "+what, path, impl.Path(j.g, j.args, j.input, 60)...)
	})
}

// wantOrdered tells the graph in that order, held against its text told a second time.
func wantOrdered(t *testing.T, name string, g impl.Graph, order []int) impl.Graph {
	t.Helper()
	r := impl.Reorder(g, order)
	if !impl.OrderOk(g, order) || !orderAgain(g, order) {
		t.Fatalf("%s: %v is no order of\n%s", name, order, graphText(g))
	}
	if !impl.GraphOk(r) || impl.ShowGraph(r) != reorderAgain(g, order) || len(r.Blocks) != len(g.Blocks) {
		t.Fatalf("%s: Reorder by %v of\n%sis\n%s; want\n%s", name, order, graphText(g), plain(r), reorderAgain(g, order))
	}
	if !slices.Equal(r.Sizes, g.Sizes) || r.Params != g.Params || r.Vars != g.Vars || r.Slots != g.Slots {
		t.Fatalf("%s: Reorder by %v of %s is %s", name, order, plain(g), plain(r))
	}
	back := make([]int, len(order))
	for i, at := range order {
		back[at] = i
	}
	// The other way around it is the graph again; and so it is by the order that there is already.
	for what, same := range map[string]impl.Graph{"there and back": impl.Reorder(r, back), "as it is": impl.Reorder(g, upTo(len(g.Blocks)))} {
		if !impl.SameGraph(same, g) {
			t.Fatalf("%s: %s by %v of\n%sis\n%s", name, what, order, graphText(g), plain(same))
		}
	}
	return r
}

// wantLaidOut tells all that is said of a graph's counts and of the order by them; it tells whether that is another one.
func (j journey) wantLaidOut(t *testing.T) bool {
	t.Helper()
	path := impl.Path(j.g, j.args, j.input, 1000)
	counts := impl.Counts(j.g, j.args, j.input)
	wantList(t, j.name+": Counts", counts, countsAgain(j.g, path)...)
	all := 0
	for _, n := range counts {
		all += n
	}
	if all != len(path) || all < 1 || all > 1000 {
		t.Fatalf("%s: Counts of\n%sare %v; its path has %d", j.name, graphText(j.g), counts, len(path))
	}
	order := wantChain(t, j.name, j.g, counts)
	l := impl.Layout(j.g, j.args, j.input)
	if want := wantOrdered(t, j.name, j.g, order); !impl.SameGraph(l, want) {
		t.Fatalf("%s: Layout of\n%sis\n%s; want\n%s", j.name, graphText(j.g), plain(l), plain(want))
	}
	j.wantAsIs(t, "Layout", l)
	wantFalls(t, j.name, l)
	return !slices.Equal(order, upTo(len(order)))
}

// wantChain tells the order by counts, held against one that is told a second time.
func wantChain(t *testing.T, name string, g impl.Graph, counts []int) []int {
	t.Helper()
	order := impl.Chain(g, counts)
	if want := chainAgain(g, counts); !slices.Equal(order, want) || !impl.OrderOk(g, order) {
		t.Fatalf("%s: Chain by %v of\n%sis %v; want %v", name, counts, graphText(g), order, want)
	}
	return order
}

func wantFalls(t *testing.T, name string, g impl.Graph) {
	t.Helper()
	if got, want := impl.Falls(g), fallsAgain(g); got != want || got < 0 || got >= len(g.Blocks) {
		t.Fatalf("%s: Falls of\n%sis %d; want %d", name, graphText(g), got, want)
	}
}

// wantThreaded tells the Threads of a graph, held against its text told a second time.
func wantThreaded(t *testing.T, name string, g impl.Graph) impl.Graph {
	t.Helper()
	u := impl.Threads(g)
	if want := threadsAgain(g); !impl.GraphOk(u) || impl.ShowGraph(u) != want {
		t.Fatalf("%s: Threads of\n%sis\n%s; want\n%s", name, graphText(g), plain(u), want)
	}
	if !slices.Equal(u.Sizes, g.Sizes) || u.Params != g.Params || u.Vars != g.Vars || u.Slots != g.Slots {
		t.Fatalf("%s: Threads of %s is %s", name, plain(g), plain(u))
	}
	return u
}

// wantThreads tells that jumps over empty blocks change nothing that is done, but that each block that is jumped over takes no fuel; it tells how many are.
func (j journey) wantThreads(t *testing.T) int {
	t.Helper()
	u := wantThreaded(t, j.name, j.g)
	if !j.done {
		for i, fuel := range j.fuels {
			// What never ends is only ahead.
			if got := impl.Walk(u, j.args, j.input, fuel); !impl.Prefix(j.ends[i].Out, got.Out) {
				t.Fatalf("%s: Threads of\n%swith %d of fuel ends %+v; without %+v", j.name, graphText(j.g), fuel, got, j.ends[i])
			}
		}
		return 0
	}
	whole := impl.Walk(j.g, j.args, j.input, impl.MaxFuel)
	steps := impl.Steps(u, j.args, j.input)
	for _, fuel := range []int{steps, steps + 1, j.steps, impl.MaxFuel} {
		if got := impl.Walk(u, j.args, j.input, fuel); !impl.SameEnd(got, whole) {
			t.Fatalf("%s: Threads of\n%swith %v / %v and %d of fuel ends %+v; without %+v", j.name, graphText(j.g), j.args, j.input, fuel, got, whole)
		}
	}
	if less := impl.Walk(u, j.args, j.input, steps-1); less.Code != impl.EndFuel || !impl.Prefix(less.Out, whole.Out) {
		t.Fatalf("%s: Threads of\n%swith one less than %d ends %+v", j.name, graphText(j.g), steps, less)
	}
	path := impl.Path(j.g, j.args, j.input, 1000)
	if len(path) == 1000 {
		return 0
	}
	left := append([]int{0}, slices.DeleteFunc(slices.Clone(path[1:]), func(at int) bool { return onlyGoesOn(j.g.Blocks[at]) })...)
	wantList(t, j.name+": Path of Threads", impl.Path(u, j.args, j.input, 1000), left...)
	if over := len(path) - len(left); steps != j.steps-over {
		t.Fatalf("%s: Threads of\n%stakes %d; without %d, with %d blocks more", j.name, graphText(j.g), steps, j.steps, over)
	}
	return len(path) - len(left)
}

// A haul counts what was met on some journeys.
type haul struct{ done, endless, moved, over int }

func (h *haul) take(t *testing.T, j journey, r *rand.Rand) {
	t.Helper()
	j.wantReorders(t, r)
	if j.wantLaidOut(t) {
		h.moved++
	}
	h.over += min(1, j.wantThreads(t))
	if j.done {
		h.done++
	} else {
		h.endless++
	}
}

func (h *haul) wantMany(t *testing.T, least haul) {
	t.Helper()
	if h.done < least.done || h.endless < least.endless || h.moved < least.moved || h.over < least.over {
		t.Errorf("only %+v", *h)
	}
}

func TestLayoutOfAllShapesDoesTheSame(t *testing.T) {
	t.Parallel()
	r := rand.New(rand.NewSource(16))
	h := haul{}
	// The steps, if a block has any, show which one was begun, and take from what the choices go by.
	for blocks := 1; blocks <= 3; blocks++ {
		at := 0
		shapes(blocks, func(g impl.Graph) {
			at++
			g.Slots = 2
			for some := range 1 << blocks {
				if blocks == 3 && (at+some)%9 > 0 && g.Blocks[2].Jump != impl.JmRet {
					continue
				}
				for i := range g.Blocks {
					g.Blocks[i].Code = nil
					if some>>i&1 > 0 {
						g.Blocks[i].Code = []impl.Instr{{Op: impl.InGet}, {D: 1, N: i}, {Op: impl.InPut, A: 1}}
					}
				}
				for _, input := range [][]int{nil, {0, 0, 0, 0}, {1, 0, 5, 0, 0}} {
					h.take(t, newJourney("a shape", g, nil, input), r)
				}
			}
		})
	}
	h.wantMany(t, haul{done: 2000, endless: 1000, moved: 1000, over: 50})
}

func TestLayoutOfMadeGraphsDoesTheSame(t *testing.T) {
	t.Parallel()
	h := haul{}
	for kind, make := range []func(seed int64) (impl.Graph, []int, []int){knotGraph, madeGraph, factGraph, valueGraph, colorGraph, memoryGraph} {
		for seed := range int64(seeds / 10) {
			seed += int64(kind) * seeds
			r := rand.New(rand.NewSource(seed))
			g, args, input := make(seed)
			name := fmt.Sprint("kind ", kind, " seed ", seed)
			h.take(t, newJourney(name, g, args, input), r)
			h.take(t, newJourney(name+" with other numbers", g, bits(r, g.Params), bits(r, 9)), r)
		}
	}
	h.wantMany(t, haul{done: seeds / 3, endless: seeds / 30, moved: seeds / 5, over: seeds / 30})
}

func TestLayoutOfMadeProgramsDoesTheSame(t *testing.T) {
	t.Parallel()
	h := haul{}
	take := func(name string, g impl.Graph, args []int, input []int, r *rand.Rand) {
		if !impl.GraphOk(g) {
			return
		}
		for level, u := range []impl.Graph{g, impl.Optimize(g, 1), impl.Optimize(g, 2), impl.Better(g)} {
			h.take(t, newJourney(fmt.Sprint("level ", level, " of ", name), u, args, input), r)
		}
	}
	for seed := range int64(seeds / 60) {
		r := rand.New(rand.NewSource(seed))
		for _, text := range []string{factProgram(seed), memoryProgram(seed)} {
			g := impl.Lower(parsed(t, text))
			for range 3 {
				take(text, g, bits(r, 2), bits(r, 6), r)
			}
		}
	}
	for seed := range int64(seeds / 20) {
		r := rand.New(rand.NewSource(seed))
		p, args, input := start(seed)
		g := impl.Lower(p)
		take(fmt.Sprint("program ", seed), g, args, input, r)
		take(fmt.Sprint("program ", seed), g, bits(r, p.Params), input, r)
	}
	h.wantMany(t, haul{done: seeds / 4, endless: seeds / 100, moved: seeds / 10, over: seeds / 20})
}

// A program's text, and its blocks in the order in which some other run does them most, mean the same.
func TestLayoutOfAProgramDoesWhatItsTextMeans(t *testing.T) {
	t.Parallel()
	ended := 0
	for seed := range int64(seeds / 10) {
		r := rand.New(rand.NewSource(seed))
		p := parsed(t, factProgram(seed))
		g := impl.Lower(p)
		if !impl.GraphOk(g) {
			continue
		}
		laid := impl.Layout(g, bits(r, 2), bits(r, 6))
		both := impl.Layout(impl.Trim(impl.Threads(laid)), bits(r, 2), bits(r, 6))
		for range 4 {
			args, input := bits(r, 2), bits(r, 6)
			mean := impl.Mean(p, args, input, 1000)
			if mean.Code == impl.EndFuel {
				continue
			}
			ended++
			for what, u := range map[string]impl.Graph{"Layout": laid, "Layout of Threads": both, "Threads": impl.Threads(g)} {
				if got := impl.Walk(u, args, input, impl.MaxFuel); !impl.SameEnd(got, mean) {
					t.Fatalf("%s with %v / %v: %s ends %+v; its text means %+v", factProgram(seed), args, input, what, got, mean)
				}
				if got := impl.Exec(impl.Code(u), args, input, impl.MaxFuel); !impl.SameEnd(got, mean) {
					t.Fatalf("%s with %v / %v: the code of %s ends %+v; its text means %+v", factProgram(seed), args, input, what, got, mean)
				}
			}
		}
	}
	if ended < seeds/10 {
		t.Errorf("only %d end", ended)
	}
}

func TestChainByAnyCounts(t *testing.T) {
	t.Parallel()
	others := 0
	told := func(g impl.Graph, r *rand.Rand) {
		n := len(g.Blocks)
		first := impl.Chain(g, make([]int, n))
		for range 4 {
			edges := []int{math.MinInt, math.MinInt + 1, -1, 0, 0, 1, math.MaxInt - 1, math.MaxInt}
			few, far := make([]int, n), make([]int, n)
			for i := range n {
				few[i], far[i] = r.Intn(3)-1, edges[r.Intn(len(edges))]
			}
			if !slices.Equal(wantChain(t, "few", g, few), first) {
				others++
			}
			wantChain(t, "far", g, far)
		}
	}
	r := rand.New(rand.NewSource(1))
	shapes(3, func(g impl.Graph) { told(g, r) })
	for seed := range int64(seeds / 2) {
		g, _, _ := madeGraph(seed)
		told(g, r)
		told(tangle(seed, 30), r)
	}
	if others < seeds {
		t.Errorf("only %d other orders", others)
	}
}

func TestThreadsAndFallsOfGraphs(t *testing.T) {
	t.Parallel()
	changed := 0
	told := func(g impl.Graph) {
		wantFalls(t, "a graph", g)
		u := wantThreaded(t, "a graph", g)
		wantFalls(t, "Threads of a graph", u)
		if !impl.SameGraph(u, g) {
			changed++
		}
	}
	for blocks := 1; blocks <= 3; blocks++ {
		shapes(blocks, told)
	}
	for seed := range int64(seeds) {
		g, _, _ := knotGraph(seed)
		told(g)
		told(tangle(seed, 40))
		g, _, _ = madeGraph(seed)
		told(g)
	}
	if changed < seeds {
		t.Errorf("only %d changed", changed)
	}
}

func TestThreadsOfKnotsDoTheSame(t *testing.T) {
	t.Parallel()
	h := haul{}
	for seed := range int64(2 * seeds) {
		g, args, input := knotGraph(seed)
		j := newJourney(fmt.Sprint("knot ", seed), g, args, input)
		over := j.wantThreads(t)
		h.over += min(1, over)
		if j.done {
			h.done++
		} else {
			h.endless++
		}
		// In another order they are jumped over as well.
		r := rand.New(rand.NewSource(seed))
		someOrders(r, len(g.Blocks), func(order []int) {
			if j.g = impl.Reorder(g, order); j.wantThreads(t) != over {
				t.Fatalf("%s: by %v not %d are jumped over in\n%s", j.name, order, over, graphText(g))
			}
		})
	}
	h.wantMany(t, haul{done: seeds, endless: seeds / 10, over: seeds / 3})
}
