package tests

import (
	"fmt"
	"math"
	"slices"
	"testing"

	"loop.example/g00385/impl"
)

// wantDone tells a body with parameters x and y, a of 4 places and b of 2 what its text, its blocks and those of them that one comes to have to do.
func wantDone(t *testing.T, s string, args []int, input []int, want string) {
	t.Helper()
	p := parsed(t, body(s))
	g := impl.Lower(p)
	wantEnd(t, s, impl.Mean(p, args, input, 1000), want)
	wantEnd(t, s+" as blocks", impl.Walk(g, args, input, impl.MaxFuel), want)
	wantEnd(t, s+" trimmed", impl.Walk(impl.Trim(g), args, input, impl.MaxFuel), want)
}

func TestBlocksDoWhatEachExpressionMeans(t *testing.T) {
	args := []int{5, -7}
	wantDone(t, "put 0; put 12; return 999999999;", args, nil, "done 999999999 0 12")
	wantDone(t, "put x; put y; let z = x; put z; return z;", args, nil, "done 5 5 -7 5")
	wantDone(t, "put get; put get; put get; put get; return get;", args, []int{8, 0, -9}, "done -1 8 0 -9 -1")
	wantDone(t, "put x + y; put x - y; put x * y; put x & y; put x == y; put x < y; put y < x; put x == 5;", args, nil, "done 0 -2 12 -35 1 0 0 1 1")
	wantDone(t, "put a[0]; put a[3]; put b[1]; return b[0];", args, nil, "done 0 0 0 0")
	wantDone(t, "a[1] = 7; b[1] = 8; ptr p in a = 1; ptr q in b = 1; put p[0]; put q[0]; put p[1]; put a[p]; put b[p];", args, nil, "done 0 7 8 0 7 8")
	wantDone(t, "a[2] = 1; a[1] = 3; a[3] = 9; put a[a[a[2]]]; put a[4 - 1]; put (2 + 3) * 4 - 1;", args, nil, "done 0 9 9 19")
	wantDone(t, "put get - get; a[get] = get; put a[3]; put get * 10 + get;", args, []int{9, 4, 3, 1, 6, 2}, "done 0 5 1 62")
	wantDone(t, "put x + y; put x * x; put y - 1; put x < y;", []int{math.MaxInt, math.MinInt}, nil, "done 0 -1 1 9223372036854775807 0")
}

func TestBlocksDoWhatEachStatementMeans(t *testing.T) {
	args := []int{5, -7}
	wantDone(t, "", args, nil, "done 0")
	wantDone(t, "let z = x + 1; let w = z; z = z * 2; put z; put w; x = 9; put x; put y;", args, nil, "done 0 12 6 9 -7")
	wantDone(t, "if 0 { let z = 4; } else { put z; } z = z + 2; put z;", args, nil, "done 0 0 2")
	wantDone(t, "a[0] = 1; a[3] = 2; b[0] = 3; b[1] = 4; a[0] = a[0] + 10; put a[0]; put a[1]; put a[3]; put b[0]; put b[1];", args, nil, "done 0 11 0 2 3 4")
	wantDone(t, "ptr p in a = 1; p[2] = 6; p = p + 1; put p[1]; put a[3]; put p;", args, nil, "done 0 6 6 2")
	wantDone(t, "if x { put 1; put 2; } else { put 3; } put 4;", args, nil, "done 0 1 2 4")
	wantDone(t, "if x - 5 { put 1; } else { put 3; put 5; } put 4;", args, nil, "done 0 3 5 4")
	wantDone(t, "if 1 { } else { put 3; } if 0 { put 4; } else { }", args, nil, "done 0")
	wantDone(t, "while x { put x; x = x - 2; if x == 1 { x = 0; } else { } } put 100;", args, nil, "done 0 5 3 100")
	wantDone(t, "while 0 { put 1; } while y < 0 - 5 { y = y + 1; } put y;", args, nil, "done 0 -5")
	wantDone(t, "while x < 8 { let i = 0; while i < x - 5 { put i; i = i + 1; } put x; x = x + 1; }", args, nil, "done 0 5 0 6 0 1 7")
	wantDone(t, "while get { put get; }", args, []int{1, 8, -1, 9, 0, 7}, "done 0 8 9")
	wantDone(t, "put 1; return x + 1; put 2;", args, nil, "done 6 1")
	wantDone(t, "while 1 { if x { put x; x = x - 1; } else { return y; put 9; } put 0; }", args, nil, "done -7 5 0 4 0 3 0 2 0 1 0")
	wantDone(t, "if x { return 1; } else { return 2; } return 3;", args, nil, "done 1")
	wantDone(t, "put 3; put a[x]; put 4;", args, nil, "trap 3")
	wantDone(t, "put 3; a[y] = 1; put 4;", args, nil, "trap 3")
	wantDone(t, "ptr p in b = y; put 3; if p[9] { } else { } put 4;", args, nil, "trap 3")
	wantDone(t, "while a[x] { } return 4;", args, nil, "trap")
	wantDone(t, "return b[2];", args, nil, "trap")
}

func TestBlocksOfProgramsDoWhatTheyMean(t *testing.T) {
	codes, ops, jumps := map[int]int{}, map[int]int{}, map[int]int{}
	for seed := range int64(seeds) {
		p, args, input := start(seed)
		g := impl.Lower(p)
		mean, walk := impl.Mean(p, args, input, 1000), impl.Walk(g, args, input, impl.MaxFuel)
		if !impl.GraphOk(g) {
			wantEnd(t, "not GraphOk", walk, "none")
			continue
		}
		codes[mean.Code]++
		if mean.Code == impl.EndFuel {
			if !impl.Prefix(mean.Out, walk.Out) && !impl.Prefix(walk.Out, mean.Out) {
				t.Fatalf("seed %d:\n%sputs out %v; its blocks %v", seed, impl.ShowProgram(p), mean.Out, walk.Out)
			}
			continue
		}
		if !impl.SameEnd(mean, walk) {
			t.Fatalf("seed %d:\n%swith %v / %v: %+v; its blocks %+v", seed, impl.ShowProgram(p), args, input, mean, walk)
		}
		for _, b := range g.Blocks {
			jumps[b.Jump]++
		}
		for _, x := range stepsOf(g) {
			ops[x.Op]++
		}
	}
	if codes[impl.EndDone] < seeds/10 || codes[impl.EndTrap] < seeds/10 || len(ops) != 7 || len(jumps) != 3 {
		t.Errorf("too few programs end: %v; steps %v, Jumps %v", codes, ops, jumps)
	}
}

// wantSameTrimmed is promise 5 of a graph that is GraphOk: no step is gone that is done, so that each fuel tells the same.
func wantSameTrimmed(t *testing.T, name string, g impl.Graph, args []int, input []int) {
	t.Helper()
	u := impl.Trim(g)
	if !impl.GraphOk(u) {
		t.Fatalf("%s: Trim of\n%sis not GraphOk: %s", name, graphText(g), plain(u))
	}
	for _, fuel := range []int{0, 1, 2, 3, 5, 8, 13, 40, 100, 1000, impl.MaxFuel} {
		got, want := impl.Walk(u, args, input, fuel), impl.Walk(g, args, input, fuel)
		if !impl.SameEnd(got, want) {
			t.Fatalf("%s: Trim of\n%sends %+v; without %+v", name, graphText(g), got, want)
		}
	}
	if got, want := impl.Steps(u, args, input), impl.Steps(g, args, input); got != want {
		t.Fatalf("%s: Trim of\n%stakes %d; without %d", name, graphText(g), got, want)
	}
	list, path := impl.Blocks(g), []int{}
	for _, at := range impl.Path(u, args, input, 1000) {
		path = append(path, list[at])
	}
	wantList(t, name+": Path of Trim", path, impl.Path(g, args, input, 1000)...)
}

func TestTrimDoesTheSame(t *testing.T) {
	less := 0
	for seed := range int64(seeds / 3) {
		p, args, input := start(seed)
		if g := impl.Lower(p); impl.GraphOk(g) {
			wantSameTrimmed(t, fmt.Sprint("program ", seed), g, args, input)
		}
		g, args, input := madeGraph(seed)
		wantSameTrimmed(t, fmt.Sprint("graph ", seed), g, args, input)
		if len(impl.Blocks(g)) < len(g.Blocks) {
			less++
		}
	}
	if less < seeds/10 {
		t.Errorf("only %d graphs have blocks that one does not come to", less)
	}
	wantSameTrimmed(t, "each kind", sample(), []int{3}, []int{4})
	shapes(2, func(g impl.Graph) { wantSameTrimmed(t, "a shape", g, nil, nil) })
}

// wantWalk tells a graph of that many parameters and slots, with regions of 4 and 2 places, what it has to do, and how much fuel that takes.
func wantWalk(t *testing.T, slots int, text string, args []int, input []int, want string, steps int) {
	t.Helper()
	g := graphOf(t, len(args), slots, text)
	wantEnd(t, text, impl.Walk(g, args, input, impl.MaxFuel), want)
	if got := impl.Steps(g, args, input); got != steps {
		t.Errorf("%q takes %d; want %d", text, got, steps)
	}
	if steps < impl.MaxFuel {
		wantEnd(t, text+" with just as much", impl.Walk(g, args, input, steps), want)
	}
	if less := impl.Walk(g, args, input, steps-1); less.Code != impl.EndFuel || less.Val != 0 || !impl.Prefix(less.Out, impl.Walk(g, args, input, steps).Out) {
		t.Errorf("%q with one less than %d: %+v", text, steps, less)
	}
}

func TestWalkOfEachStep(t *testing.T) {
	const most, least = "9223372036854775807", "-9223372036854775808"
	wantWalk(t, 3, "b0: / s2 = 7 / put s2 / s2 = -3 / put s2 / put s1 / ret s0", []int{4}, nil, "done 4 7 -3 0", 6)
	wantWalk(t, 1, "b0: / s0 = "+most+" / put s0 / s0 = "+least+" / ret s0", nil, nil, "done "+least+" "+most, 4)
	wantWalk(t, 3, "b0: / s2 = s1 / s1 = s0 / s0 = s2 / put s0 / put s1 / ret s2", []int{3, 8}, nil, "done 8 8 3", 6)
	wantWalk(t, 2, "b0: / s1 = s1 / s0 = s0 / put s1 / ret s0", []int{3}, nil, "done 3 0", 4)
	for sign, want := range map[string]string{"==": "0", "<": "1", "&": "5", "+": "4", "-": "-10", "*": "-21"} {
		wantWalk(t, 3, "b0: / s2 = s0 "+sign+" s1 / ret s2", []int{-3, 7}, nil, "done "+want, 2)
		wantWalk(t, 3, "b0: / s1 = s0 "+sign+" s1 / put s0 / ret s1", []int{-3, 7}, nil, "done "+want+" -3", 3)
	}
	for sign, want := range map[string]string{"==": "1", "<": "0", "&": "6", "+": "12", "-": "0", "*": "36"} {
		wantWalk(t, 1, "b0: / s0 = s0 "+sign+" s0 / ret s0", []int{6}, nil, "done "+want, 2)
	}
	wantWalk(t, 2, "b0: / s0 = s0 + s1 / put s0 / s0 = s0 * s1 / ret s0", []int{math.MaxInt, 1}, nil, "done "+least+" "+least, 4)
	wantWalk(t, 1, "b0: / s0 = s0 * s0 / ret s0", []int{1 << 32}, nil, "done 0", 2)
	wantWalk(t, 3, "b0: / r0[s0] = s1 / s2 = r0[s0] / put s2 / s2 = r1[s0] / put s2 / ret s2", []int{1, 6}, nil, "done 0 6 0", 6)
	wantWalk(t, 3, "b0: / r0[s0+s1] = s1 / s2 = r0[s1+s0] / put s2 / s0 = r0[s0] / put s0 / ret s1", []int{1, 2}, nil, "done 2 2 0", 6)
	wantWalk(t, 2, "b0: / r0[s1] = s0 / s1 = r0[s1] / s1 = s1 - s0 / s1 = r0[s1] / put s1 / ret s1", []int{9}, nil, "done 9 9", 6)
	wantWalk(t, 1, "b0: / r1[s0] = s0 / s0 = r1[s0] / r1[s0+s0] = s0 / ret s0", []int{1}, nil, "trap", 3)
	wantWalk(t, 2, "b0: / s1 = get / put s1 / s0 = get / put s0 / s1 = get / put s1 / s0 = get / ret s0", []int{5}, []int{-4, 12}, "done -1 -4 12 -1", 8)
	wantWalk(t, 1, "b0: / put s0 / put s0 / ret s0", []int{0}, nil, "done 0 0 0", 3)
}

func TestWalkOfEachJump(t *testing.T) {
	wantWalk(t, 1, "b0: / go b2 / b1: / put s0 / ret s0 / b2: / go b1", []int{6}, nil, "done 6 6", 4)
	branch := "b0: / if s0 b2 b1 / b1: / put s1 / ret s0 / b2: / put s0 / ret s1"
	wantWalk(t, 2, branch, []int{0, 7}, nil, "done 0 7", 3)
	for _, x := range []int{1, -1, 2, math.MinInt, math.MaxInt} {
		wantWalk(t, 2, branch, []int{x, 7}, nil, fmt.Sprint("done 7 ", x), 3)
	}
	for _, x := range []int{0, 1} {
		wantWalk(t, 1, "b0: / if s0 b1 b1 / b1: / ret s0", []int{x}, nil, fmt.Sprint("done ", x), 2)
	}
	wantWalk(t, 2, "b0: / ret s1", []int{4}, nil, "done 0", 1)
	// A Jump tells by what its slot has behind all steps.
	wantWalk(t, 1, "b0: / s0 = 0 / if s0 b0 b1 / b1: / s0 = 4 / ret s0", []int{9}, nil, "done 4", 4)
	// Block 0 is gone to: slots, regions and input are as they were, and not as at first.
	wantWalk(t, 3, "b0: / put s2 / s1 = get / s2 = s2 + s1 / r0[s1] = s2 / if s1 b0 b1 / b1: / s1 = 3 / s1 = r0[s1] / ret s1", []int{1}, []int{3, 2, 0}, "done 3 0 3 5", 18)
}

func TestWalkThatNeverEnds(t *testing.T) {
	wantWalk(t, 0, "b0: / go b0", nil, nil, "fuel", impl.MaxFuel)
	for _, x := range []int{0, 1} {
		wantWalk(t, 1, "b0: / if s0 b0 b0", []int{x}, nil, "fuel", impl.MaxFuel)
	}
	wantWalk(t, 1, "b0: / go b1 / b1: / if s0 b1 b0", []int{1}, nil, "fuel", impl.MaxFuel)
	wantWalk(t, 1, "b0: / go b1 / b1: / if s0 b1 b0", []int{0}, nil, "fuel", impl.MaxFuel)
	g := graphOf(t, 0, 2, "b0: / s1 = 1 / go b1 / b1: / put s0 / s0 = s0 + s1 / go b1")
	e := impl.Walk(g, nil, nil, impl.MaxFuel)
	if e.Code != impl.EndFuel || len(e.Out) != 33333 || e.Out[0] != 0 || e.Out[33332] != 33332 {
		t.Errorf("an endless loop puts %d numbers out and ends with %d", len(e.Out), e.Code)
	}
	if got := impl.Steps(g, nil, nil); got != impl.MaxFuel {
		t.Errorf("it takes %d", got)
	}
}

func TestWalkBeginsWithArgsAndNoughts(t *testing.T) {
	g := impl.Graph{Sizes: []int{1, 16}, Params: 6, Vars: 8, Slots: 30, Blocks: make([]impl.Block, 1)}
	want, b := "done 6 1 2 3 4 5 6", &g.Blocks[0]
	for slot := range 29 {
		b.Code = append(b.Code, impl.Instr{Op: impl.InPut, A: slot})
		if slot > 5 {
			want += " 0"
		}
	}
	for place := range 16 {
		b.Code = append(b.Code, impl.Instr{D: 29, N: place}, impl.Instr{Op: impl.InLoad, D: 29, A: -1, B: 29, N: 1}, impl.Instr{Op: impl.InPut, A: 29})
		want += " 0"
	}
	b.Code = append(b.Code, impl.Instr{Op: impl.InLoad, D: 29, A: -1, B: 29}, impl.Instr{Op: impl.InPut, A: 29})
	b.Jump, b.A = impl.JmRet, 5
	for range 2 {
		wantEnd(t, "the beginning", impl.Walk(g, []int{1, 2, 3, 4, 5, 6}, nil, 1000), want+" 0")
	}
}

func TestWalkTakesFuel(t *testing.T) {
	for _, c := range []struct {
		text string
		ends []string
	}{
		{"b0: / ret s0", []string{"fuel", "done 2"}},
		{"b0: / s1 = 1 / put s1 / ret s0", []string{"fuel", "fuel", "fuel 1", "done 2 1"}},
		{"b0: / go b1 / b1: / ret s0", []string{"fuel", "fuel", "done 2"}},
		{"b0: / if s0 b1 b0 / b1: / put s0 / ret s0", []string{"fuel", "fuel", "fuel 2", "done 2 2"}},
		{"b0: / if s1 b0 b1 / b1: / put s0 / ret s0", []string{"fuel", "fuel", "fuel 2", "done 2 2"}},
		{"b0: / s1 = s0 / s1 = get / s1 = s1 + s0 / r0[s0] = s1 / s1 = r0[s0] / put s1 / ret s1", []string{"fuel", "fuel", "fuel", "fuel", "fuel", "fuel", "fuel 1", "done 1 1"}},
		{"b0: / put s0 / s1 = r1[s0] / ret s0", []string{"fuel", "fuel 2", "trap 2"}},
		{"b0: / put s0 / r1[s0] = s1 / ret s0", []string{"fuel", "fuel 2", "trap 2"}},
		{"b0: / s1 = r0[s0+s0] / ret s0", []string{"fuel", "trap"}},
		{"b0: / s1 = 1 / go b1 / b1: / put s0 / s0 = s0 - s1 / if s0 b1 b2 / b2: / ret s1",
			[]string{"fuel", "fuel", "fuel", "fuel 2", "fuel 2", "fuel 2", "fuel 2 1", "fuel 2 1", "fuel 2 1", "done 1 2 1"}},
	} {
		g := graphOf(t, 1, 2, c.text)
		for fuel, want := range c.ends {
			wantEnd(t, c.text, impl.Walk(g, []int{2}, nil, fuel), want)
		}
		steps := len(c.ends) - 1
		wantWalk(t, 2, c.text, []int{2}, nil, c.ends[steps], steps)
	}
}

func TestWalkAtTheEdgesOfFuel(t *testing.T) {
	// Each round takes 3, what stands behind the last one 1.
	const loop = "b0: / s1 = 1 / s0 = s0 - s1 / if s0 b0 b1 / b1: / "
	wantWalk(t, 2, loop+"ret s1", []int{33333}, nil, "done 1", impl.MaxFuel)
	wantWalk(t, 2, loop+"ret s1", []int{33334}, nil, "fuel", impl.MaxFuel)
	wantWalk(t, 2, loop+"put s1 / ret s1", []int{33333}, nil, "fuel 1", impl.MaxFuel)
	wantWalk(t, 2, loop+"put s1 / ret s1", []int{33332}, nil, "done 1 1", impl.MaxFuel-2)
	wantWalk(t, 2, loop+"s1 = r1[s0+s1] / ret s1", []int{33333}, nil, "fuel", impl.MaxFuel)
	wantWalk(t, 2, loop+"r1[s0] = s1 / s1 = s1 + s1 / s1 = r1[s1] / ret s1", []int{33332}, nil, "trap", impl.MaxFuel-1)
	g := graphOf(t, 2, 2, "b0: / put s1 / ret s0")
	args := []int{4, 6}
	for fuel, want := range map[int]string{
		0: "fuel", 1: "fuel 6", 2: "done 4 6", 3: "done 4 6", 1001: "done 4 6", impl.MaxFuel: "done 4 6",
		impl.MaxFuel + 1: "none", -1: "none", math.MaxInt: "none", math.MinInt: "none",
	} {
		wantEnd(t, fmt.Sprint("fuel ", fuel), impl.Walk(g, args, nil, fuel), want)
	}
}

func TestWalkOf100NumbersOfInputAndMore(t *testing.T) {
	g := graphOf(t, 0, 3, "b0: / s0 = get / s1 = s1 + s0 / s2 = 99 / s2 = s1 < s2 / if s2 b0 b1 / b1: / s0 = get / put s0 / s0 = get / put s0 / s0 = get / ret s0")
	input := slices.Repeat([]int{1}, 100)
	input[99] = 6
	wantEnd(t, "100", impl.Walk(g, nil, input, 1000), "done -1 6 -1")
	if got := impl.Steps(g, nil, input); got != 99*5+6 {
		t.Errorf("Steps = %d", got)
	}
	if got := impl.Path(g, nil, input, 1000); len(got) != 100 || got[98] != 0 || got[99] != 1 {
		t.Errorf("Path = %v", got)
	}
	for _, more := range []int{101, 102, 5000} {
		wantNoWalk(t, fmt.Sprint(more, " numbers"), g, nil, slices.Repeat([]int{1}, more))
	}
}

// wantNoWalk tells a graph, or what it is begun with, as not right.
func wantNoWalk(t *testing.T, name string, g impl.Graph, args []int, input []int) {
	t.Helper()
	for _, fuel := range []int{-1, 0, 1, 1000, impl.MaxFuel, impl.MaxFuel + 1} {
		wantEnd(t, name, impl.Walk(g, args, input, fuel), "none")
	}
	if got := impl.Steps(g, args, input); got != -1 {
		t.Errorf("%s: Steps = %d", name, got)
	}
	for _, most := range []int{-1, 0, 1, 1000, 1001} {
		wantList(t, name+": Path", impl.Path(g, args, input, most))
	}
}

func TestWalkAtTheEdgesOfRegions(t *testing.T) {
	const most, least = math.MaxInt, math.MinInt
	for _, size := range []int{1, 2, 4, 15, 16} {
		g := impl.Graph{Sizes: []int{16, size, 16}, Params: 2, Vars: 2, Slots: 4, Blocks: make([]impl.Block, 1)}
		g.Blocks[0].Jump = impl.JmRet
		right := func(x int) bool { return 0 <= x && x < size }
		for _, x := range []int{least, -16, -1, 0, size - 1, size, size + 1, 16, 17, most} {
			for _, y := range []int{least, least + 1, 1 - size, -1, 0, 1, size - 1, size, most - 1, most} {
				for _, way := range []struct {
					a, b  int
					right bool
				}{
					{-1, 0, right(x)}, {-1, 1, right(y)}, {-1, 2, true}, {0, 1, right(around("+", x, y))}, {1, 0, right(around("+", x, y))},
					{0, 2, right(x)}, {2, 0, right(x)}, {0, 0, right(around("+", x, x))},
				} {
					cell := impl.Instr{A: way.a, B: way.b, N: 1}
					load, store := cell, cell
					load.Op, load.D, store.Op, store.C = impl.InLoad, 3, impl.InStore, 3
					g.Blocks[0].Code = []impl.Instr{{D: 3, N: 9}, store, {D: 3, N: 8}, load, {Op: impl.InPut, A: 3}}
					want := "trap"
					if way.right {
						want = fmt.Sprint("done ", x, " 9")
					}
					wantEnd(t, plain(g), impl.Walk(g, []int{x, y}, nil, 9), want)
					g.Blocks[0].Code = []impl.Instr{{D: 3, N: 8}, load, {Op: impl.InPut, A: 3}}
					if way.right {
						want = fmt.Sprint("done ", x, " 0")
					}
					wantEnd(t, plain(g), impl.Walk(g, []int{x, y}, nil, 9), want)
				}
			}
		}
	}
}

func TestWalkStoresAtOnePlaceAlone(t *testing.T) {
	sizes := []int{3, 1, 16, 2}
	for region, size := range sizes {
		for place := range size {
			g := impl.Graph{Sizes: sizes, Slots: 2, Blocks: []impl.Block{{Jump: impl.JmRet, A: 1}}}
			code := []impl.Instr{{D: 0, N: place}, {D: 1, N: 8}, {Op: impl.InStore, A: -1, B: 0, C: 1, N: region}}
			want := ""
			for r, s := range sizes {
				for i := range s {
					code = append(code, impl.Instr{N: i}, impl.Instr{Op: impl.InLoad, A: -1, N: r}, impl.Instr{Op: impl.InPut})
					if r == region && i == place {
						want += " 8"
					} else {
						want += " 0"
					}
				}
			}
			g.Blocks[0].Code = code
			wantEnd(t, plain(g), impl.Walk(g, nil, nil, 1000), "done 8"+want)
		}
	}
}

func TestWalkIsWhatIsToldOfEachLine(t *testing.T) {
	const most = 1500
	codes := map[int]int{}
	for seed := range int64(seeds) {
		g, args, input := madeGraph(seed)
		if !impl.GraphOk(g) {
			t.Fatalf("seed %d: %s is not GraphOk", seed, plain(g))
		}
		if seed%3 == 0 {
			p, a, i := start(seed)
			if lowered := impl.Lower(p); impl.GraphOk(lowered) {
				g, args, input = lowered, a, i
			}
		}
		s := strolled(g, args, input, most)
		codes[s.end.Code]++
		for _, fuel := range []int{0, 1, 2, 3, 5, 8, 13, 40, 100, 999, most} {
			if got, want := impl.Walk(g, args, input, fuel), s.withFuel(fuel); !impl.SameEnd(got, want) {
				t.Fatalf("seed %d:\n%swith %v / %v and fuel %d: %+v; want %+v", seed, graphText(g), args, input, fuel, got, want)
			}
		}
		for _, n := range []int{0, 1, 2, 5, 10} {
			wantList(t, fmt.Sprint("seed ", seed), impl.Path(g, args, input, n), s.path[:min(n, len(s.path))]...)
		}
		steps := impl.Steps(g, args, input)
		if s.end.Code == impl.EndFuel {
			if steps <= most {
				t.Fatalf("seed %d:\n%stakes %d", seed, graphText(g), steps)
			}
			continue
		}
		if steps != len(s.ahead) {
			t.Fatalf("seed %d:\n%stakes %d; want %d", seed, graphText(g), steps, len(s.ahead))
		}
		wantList(t, fmt.Sprint("seed ", seed), impl.Path(g, args, input, 1000), s.path[:min(1000, len(s.path))]...)
	}
	for code := range 3 {
		if codes[code] < seeds/50 {
			t.Errorf("only %d graphs end with code %d", codes[code], code)
		}
	}
}

// With just as much as Steps tells a walk ends as with MaxFuel, with one less it is out of fuel; what it does with some it does with more.
func TestStepsAreJustEnough(t *testing.T) {
	ended := 0
	for seed := range int64(seeds) {
		g, args, input := madeGraph(seed)
		steps, whole := impl.Steps(g, args, input), impl.Walk(g, args, input, impl.MaxFuel)
		if whole.Code == impl.EndFuel {
			if steps != impl.MaxFuel {
				t.Fatalf("seed %d: out of fuel with %d", seed, steps)
			}
			continue
		}
		ended++
		if steps < 1 || !impl.SameEnd(whole, impl.Walk(g, args, input, steps)) {
			t.Fatalf("seed %d: %d is not enough", seed, steps)
		}
		for fuel := max(0, steps-50); fuel < steps; fuel++ {
			if less := impl.Walk(g, args, input, fuel); less.Code != impl.EndFuel || less.Val != 0 || !impl.Prefix(less.Out, whole.Out) {
				t.Fatalf("seed %d: %d are taken, with %d it ends %+v", seed, steps, fuel, less)
			}
		}
	}
	if ended < seeds/3 {
		t.Errorf("only %d graphs end", ended)
	}
}

func goesTo(b impl.Block) []int { return [][]int{{b.To}, {b.To, b.Else}, {}}[b.Jump] }

// comesTo goes over all blocks so often that the longest way is gone.
func comesTo(g impl.Graph) []int {
	there := []bool{true}
	there = append(there, make([]bool, len(g.Blocks)-1)...)
	for range g.Blocks {
		for i, b := range g.Blocks {
			for _, to := range goesTo(b) {
				there[to] = there[to] || there[i]
			}
		}
	}
	list := []int{}
	for i := range g.Blocks {
		if there[i] {
			list = append(list, i)
		}
	}
	return list
}

func goneTo(g impl.Graph, at int, order []int) []int {
	if slices.Contains(order, at) {
		return order
	}
	order = append(order, at)
	for _, to := range goesTo(g.Blocks[at]) {
		order = goneTo(g, to, order)
	}
	return order
}

// trimmed takes the blocks that one does not come to one by one, the last first, and tells the numbers behind it one less.
func trimmed(g impl.Graph) impl.Graph {
	g = otherGraph(g)
	there := comesTo(g)
	for at := len(g.Blocks) - 1; at > 0; at-- {
		if slices.Contains(there, at) {
			continue
		}
		g.Blocks = slices.Delete(g.Blocks, at, at+1)
		for i := range g.Blocks {
			for _, to := range []*int{&g.Blocks[i].To, &g.Blocks[i].Else} {
				if *to > at {
					*to--
				}
			}
		}
	}
	return g
}

// wantWays tells a graph that is GraphOk its Blocks, Order, Trim, Ahead and Next.
func wantWays(t *testing.T, g impl.Graph) {
	t.Helper()
	name := graphText(g)
	there := comesTo(g)
	wantList(t, name+"Blocks", impl.Blocks(g), there...)
	wantList(t, name+"Order", impl.Order(g), goneTo(g, 0, nil)...)
	if got, want := impl.Trim(g), trimmed(g); plain(got) != plain(want) || !impl.SameGraph(got, want) {
		t.Errorf("%sTrim tells %s; want %s", name, plain(got), plain(want))
	}
	for at := range g.Blocks {
		ahead := []int{}
		for i, b := range g.Blocks {
			if slices.Contains(goesTo(b), at) {
				ahead = append(ahead, i)
			}
		}
		wantList(t, name+"Ahead", impl.Ahead(g, at), ahead...)
		wantList(t, name+"Next", impl.Next(g.Blocks[at]), goesTo(g.Blocks[at])...)
	}
	for _, at := range []int{-1, len(g.Blocks), len(g.Blocks) + 1, math.MinInt, math.MaxInt} {
		wantList(t, name+"no such block", impl.Ahead(g, at))
	}
}

func TestWaysOfAllShapesOfFewBlocks(t *testing.T) {
	count := 0
	for blocks := 1; blocks <= 3; blocks++ {
		shapes(blocks, func(g impl.Graph) {
			count++
			wantWays(t, g)
		})
	}
	if count != 3+7*7+13*13*13 {
		t.Errorf("%d shapes", count)
	}
}

func TestWaysOfGraphs(t *testing.T) {
	for seed := range int64(seeds / 3) {
		g, _, _ := madeGraph(seed)
		wantWays(t, g)
		_, p := made(seed)
		if lowered := impl.Lower(p); impl.GraphOk(lowered) {
			wantWays(t, lowered)
		}
	}
	wantWays(t, sample())
}

func TestBlocksOrderAndAheadOfShapes(t *testing.T) {
	for _, c := range []struct {
		name          string
		g             impl.Graph
		blocks, order []int
		ahead         [][]int
	}{
		{"one block", shape([]int{}), []int{0}, []int{0}, [][]int{{}}},
		{"to itself", shape([]int{0}), []int{0}, []int{0}, [][]int{{0}}},
		{"to itself, both ways", shape([]int{0, 0}), []int{0}, []int{0}, [][]int{{0}}},
		{"to itself, one way", shape([]int{1}, []int{1, 2}, []int{}), []int{0, 1, 2}, []int{0, 1, 2}, [][]int{{}, {0, 1}, {1}}},
		{"nobody comes to 1", shape([]int{2}, []int{2}, []int{}), []int{0, 2}, []int{0, 2}, [][]int{{}, {}, {0, 1}}},
		{"nobody but itself", shape([]int{}, []int{1}), []int{0}, []int{0}, [][]int{{}, {1}}},
		{"1 and 2 go to each other", shape([]int{3}, []int{2}, []int{1}, []int{}), []int{0, 3}, []int{0, 3}, [][]int{{}, {2}, {1}, {0}}},
		{"back to block 0", shape([]int{1, 2}, []int{0}, []int{}), []int{0, 1, 2}, []int{0, 1, 2}, [][]int{{1}, {0}, {0}}},
		{"both ways to one", shape([]int{1, 1}, []int{}), []int{0, 1}, []int{0, 1}, [][]int{{}, {0}}},
		{"To and Else", shape([]int{2, 1}, []int{3}, []int{3}, []int{}), []int{0, 1, 2, 3}, []int{0, 2, 3, 1}, [][]int{{}, {0}, {0}, {1, 2}}},
		{"To comes to Else's block first", shape([]int{1, 2}, []int{3}, []int{4}, []int{2}, []int{}), []int{0, 1, 2, 3, 4}, []int{0, 1, 3, 2, 4}, [][]int{{}, {0}, {0, 3}, {1}, {2}}},
		{"Else waits for all behind To", shape([]int{1, 4}, []int{2, 3}, []int{}, []int{5}, []int{}, []int{}), []int{0, 1, 2, 3, 4, 5}, []int{0, 1, 2, 3, 5, 4}, [][]int{{}, {0}, {1}, {1}, {0}, {3}}},
		{"backwards", shape([]int{3}, []int{}, []int{1}, []int{2}), []int{0, 1, 2, 3}, []int{0, 3, 2, 1}, [][]int{{}, {2}, {3}, {0}}},
	} {
		wantList(t, c.name, impl.Blocks(c.g), c.blocks...)
		wantList(t, c.name, impl.Order(c.g), c.order...)
		for at, want := range c.ahead {
			wantList(t, fmt.Sprint(c.name, ", ahead of ", at), impl.Ahead(c.g, at), want...)
		}
	}
}

func TestMostBlocksInARow(t *testing.T) {
	next, order := [][]int{}, []int{}
	for i := range impl.MaxBlocks {
		next, order = append(next, []int{i + 1, max(0, i-1)}), append(order, i)
	}
	next[impl.MaxBlocks-1] = []int{}
	g := shape(next...)
	wantList(t, "Order", impl.Order(g), order...)
	wantList(t, "Blocks", impl.Blocks(g), order...)
	if !impl.SameGraph(impl.Trim(g), g) {
		t.Error("Trim takes a block that one comes to")
	}
	wantList(t, "Ahead", impl.Ahead(g, impl.MaxBlocks-1), impl.MaxBlocks-2)
	wantList(t, "one block more", impl.Order(shape(append(next, []int{})...)))
}

func TestTrimTellsNumbersAnew(t *testing.T) {
	for _, c := range []struct{ text, want string }{
		{"b0: / go b2 / b1: / put s0 / go b2 / b2: / put s1 / ret s1", "b0: / go b1 / b1: / put s1 / ret s1"},
		{"b0: / ret s1 / b1: / ret s0 / b2: / go b2", "b0: / ret s1"},
		{"b0: / s1 = s0 < s0 / if s1 b4 b2 / b1: / go b3 / b2: / put s0 / go b0 / b3: / go b1 / b4: / put s1 / if s0 b4 b4",
			"b0: / s1 = s0 < s0 / if s1 b2 b1 / b1: / put s0 / go b0 / b2: / put s1 / if s0 b2 b2"},
		{"b0: / go b1 / b1: / ret s0", "b0: / go b1 / b1: / ret s0"},
		{"b0: / if s0 b3 b3 / b1: / ret s1 / b2: / go b0 / b3: / go b0", "b0: / if s0 b1 b1 / b1: / go b0"},
	} {
		got, want := impl.Trim(graphOf(t, 1, 2, c.text)), graphOf(t, 1, 2, c.want)
		if plain(got) != plain(want) || !impl.SameGraph(got, want) {
			t.Errorf("Trim of %q tells %s; want %s", c.text, plain(got), plain(want))
		}
	}
}

func TestNextOfEachJump(t *testing.T) {
	for _, n := range []int{0, 7, -1, math.MinInt, math.MaxInt} {
		for _, m := range []int{0, 7, 8} {
			b := impl.Block{Code: gets(2), A: 3, To: n, Else: m}
			b.Jump = impl.JmGo
			wantList(t, "JmGo", impl.Next(b), n)
			b.Jump = impl.JmIf
			wantList(t, "JmIf", impl.Next(b), n, m)
			for _, jump := range []int{impl.JmRet, -1, 3, 4, math.MinInt, math.MaxInt} {
				b.Jump = jump
				wantList(t, fmt.Sprint("Jump ", jump), impl.Next(b))
			}
		}
	}
	wantList(t, "the zero value", impl.Next(impl.Block{}), 0)
}

func TestPathOfMost(t *testing.T) {
	g := graphOf(t, 1, 2, "b0: / s1 = 1 / go b2 / b1: / ret s1 / b2: / s0 = s0 - s1 / if s0 b2 b3 / b3: / go b1")
	whole := []int{0, 2, 2, 2, 3, 1}
	for most := range 9 {
		wantList(t, fmt.Sprint("most ", most), impl.Path(g, []int{3}, nil, most), whole[:min(most, 6)]...)
	}
	wantList(t, "most 1000", impl.Path(g, []int{3}, nil, 1000), whole...)
	for _, most := range []int{1001, -1, 100000, math.MinInt, math.MaxInt} {
		wantList(t, fmt.Sprint("most ", most), impl.Path(g, []int{3}, nil, most))
	}
	// Of a walk with one block less than 1000, with 1000, with one more, and without end.
	for rounds, want := range map[int]int{996: 999, 997: 1000, 998: 1000, 5000: 1000, -1: 1000} {
		got := impl.Path(g, []int{rounds}, nil, 1000)
		if len(got) != want || got[0] != 0 || got[1] != 2 || got[900] != 2 {
			t.Errorf("%d rounds: %d blocks", rounds, len(got))
		}
	}
	wantList(t, "a trap", impl.Path(graphOf(t, 1, 1, "b0: / go b1 / b1: / s0 = r0[s0] / go b2 / b2: / ret s0"), []int{4}, nil, 9), 0, 1)
	wantList(t, "to itself", impl.Path(graphOf(t, 0, 0, "b0: / go b0"), nil, nil, 1000), make([]int, 1000)...)
	wantList(t, "block 0 again", impl.Path(graphOf(t, 1, 1, "b0: / if s0 b1 b2 / b1: / s0 = 0 / go b0 / b2: / ret s0"), []int{5}, nil, 9), 0, 1, 0, 2)
	wantList(t, "one block both ways", impl.Path(graphOf(t, 1, 1, "b0: / if s0 b1 b1 / b1: / ret s0"), []int{5}, nil, 9), 0, 1)
}

func TestPathEndsWithFuel(t *testing.T) {
	g := impl.Graph{Sizes: []int{1}, Slots: 1, Blocks: bare(1)}
	// A round takes 1001: the last one is begun and not ended.
	g.Blocks[0].Code = gets(impl.MaxCode)
	wantList(t, "1000 steps", impl.Path(g, nil, nil, 1000), make([]int, 100)...)
	// A round takes 1000: behind the last one there is no fuel, but the block is gone to.
	g.Blocks[0].Code = gets(impl.MaxCode - 1)
	wantList(t, "999 steps", impl.Path(g, nil, nil, 1000), make([]int, 101)...)
	wantList(t, "as many", impl.Path(g, nil, nil, 101), make([]int, 101)...)
	wantList(t, "one less", impl.Path(g, nil, nil, 100), make([]int, 100)...)
	if got := impl.Steps(g, nil, nil); got != impl.MaxFuel {
		t.Errorf("Steps = %d", got)
	}
}

func TestWalkOfWrongArgs(t *testing.T) {
	for params := range 7 {
		g := shape([]int{1}, []int{})
		g.Params, g.Vars, g.Slots = params, 7, 7
		for n := range 10 {
			args := make([]int, n)
			if n != params {
				wantNoWalk(t, fmt.Sprintf("%d of %d args", n, params), g, args, nil)
				continue
			}
			wantEnd(t, "args", impl.Walk(g, args, nil, 2), "done 0")
			wantList(t, "Path", impl.Path(g, args, nil, 2), 0, 1)
			if got := impl.Steps(g, args, nil); got != 2 {
				t.Errorf("Steps = %d", got)
			}
		}
	}
	wantNoWalk(t, "args and input", shape([]int{}), make([]int, 1), make([]int, 101))
}

func TestWaysOfWrongGraphs(t *testing.T) {
	for name, g := range wrongGraphs() {
		wantWrongWays(t, name, g)
	}
	for _, p := range []impl.Program{withExps(20, impl.MaxSlots-20), withBlocks(impl.MaxBlocks + 1), withSteps(impl.MaxCode + 1)} {
		wantWrongWays(t, "a long program", impl.Lower(p))
	}
	// It is wrong, though no walk comes to it.
	for _, b := range []impl.Block{{Jump: 3}, {To: 2}, {Jump: impl.JmIf, A: 1}, {Code: []impl.Instr{{Op: 7}}}, {Code: []impl.Instr{{D: 1}}}} {
		g := shape([]int{}, []int{})
		wantEnd(t, "right", impl.Walk(g, nil, nil, 9), "done 0")
		g.Blocks[1] = b
		wantWrongWays(t, plain(b), g)
	}
}

func wantWrongWays(t *testing.T, name string, g impl.Graph) {
	t.Helper()
	for n := range 8 {
		wantNoWalk(t, name, g, make([]int, n), nil)
	}
	wantList(t, name+": Blocks", impl.Blocks(g))
	wantList(t, name+": Order", impl.Order(g))
	for _, at := range []int{-1, 0, 1, 2, 3, 300, math.MinInt, math.MaxInt} {
		wantList(t, name+": Ahead", impl.Ahead(g, at))
	}
	if got := impl.Trim(g); plain(got) != plain(g) || !impl.SameGraph(got, g) {
		t.Errorf("%s: Trim tells %s; want %s", name, plain(got), plain(g))
	}
}

// someGraphs are right and wrong ones, with what they are begun with.
func someGraphs(yield func(g impl.Graph, args []int, input []int)) {
	for seed := range int64(200) {
		yield(madeGraph(seed))
	}
	for _, g := range wrongGraphs() {
		yield(g, make([]int, min(9, max(0, g.Params))), []int{1, 2})
	}
	yield(sample(), []int{1}, nil)
	yield(sample(), nil, make([]int, 101))
}

func TestWalksWriteIntoNothing(t *testing.T) {
	someGraphs(func(g impl.Graph, args []int, input []int) {
		g, tell := roomy(g)
		args, input = append(make([]int, 0, 120), args...), append(make([]int, 0, 120), input...)
		ahead := tell() + plain(args[:120]) + plain(input[:120])
		impl.Walk(g, args, input, 1000)
		impl.Steps(g, args, input)
		impl.Path(g, args, input, 100)
		impl.Blocks(g)
		impl.Order(g)
		impl.Trim(g)
		for at, b := range g.Blocks {
			impl.Next(b)
			impl.Ahead(g, at)
		}
		if tell()+plain(args[:120])+plain(input[:120]) != ahead {
			t.Fatalf("written into: %s", plain(g))
		}
	})
}

// spoil writes over a list, and into the spare room behind it.
func spoil(list []int) {
	for i := range list {
		list[i] = -77
	}
	_ = append(list, -77)
}

func spoilGraph(g impl.Graph) {
	spoil(g.Sizes)
	_ = append(g.Blocks, impl.Block{Jump: -7})
	for i, b := range g.Blocks {
		_ = append(b.Code, impl.Instr{Op: -7})
		for j := range b.Code {
			b.Code[j] = impl.Instr{Op: -7}
		}
		g.Blocks[i] = impl.Block{Jump: -7}
	}
}

func TestAnswersOfWalksAreNewMemory(t *testing.T) {
	someGraphs(func(g impl.Graph, args []int, input []int) {
		tell := func() string {
			return plain([]any{g, args, input, impl.Walk(g, args, input, 500), impl.Path(g, args, input, 50), impl.Blocks(g), impl.Order(g), impl.Trim(g)})
		}
		ahead := tell()
		trim, want := impl.Trim(g), plain(impl.Trim(g))
		for _, b := range trim.Blocks {
			_ = append(b.Code, impl.Instr{Op: -7})
			for _, x := range b.Code {
				for _, y := range stepsOf(g) {
					if within(x.Text, y.Text) {
						t.Fatalf("a sign of Trim shares memory with %s", plain(g))
					}
				}
			}
		}
		_ = append(trim.Blocks, impl.Block{Jump: -7})
		if plain(trim) != want {
			t.Fatalf("two lists of Trim of %s share memory", plain(g))
		}
		spoilGraph(trim)
		spoil(impl.Walk(g, args, input, 500).Out)
		spoil(impl.Path(g, args, input, 50))
		spoil(impl.Blocks(g))
		spoil(impl.Order(g))
		for at, b := range g.Blocks {
			spoil(impl.Next(b))
			spoil(impl.Ahead(g, at))
		}
		if tell() != ahead {
			t.Fatalf("an answer shares memory with %s", plain(g))
		}
	})
	// Where an argument's lists share memory, those of the answer do not.
	code := append(make([]impl.Instr, 0, 9), impl.Instr{Op: impl.InGet})
	blocks := bare(2)
	blocks[0].Code, blocks[1].Code = code, code
	for _, g := range []impl.Graph{{Sizes: []int{1}, Slots: 1, Blocks: blocks}, {Blocks: blocks}} {
		u := impl.Trim(g)
		u.Blocks[0].Code[0].D = 9
		if len(u.Blocks) == 2 && u.Blocks[1].Code[0].D == 9 || code[0].D == 9 {
			t.Error("Trim keeps what lists share")
		}
	}
}
