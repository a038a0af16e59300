package tests

import (
	"fmt"
	"math"
	"slices"
	"strings"
	"testing"

	"loop.example/g00385/impl"
)

// wantGraph tells a body with parameters x (s0) and y (s1), a (r0) of 4 places and b (r1) of 2 its graph; a stroke stands for each newline.
func wantGraph(t *testing.T, s string, want string) impl.Graph {
	t.Helper()
	g := impl.Lower(parsed(t, body(s)))
	want = strings.ReplaceAll(want, " / ", "\n") + "\n"
	if got := impl.ShowGraph(g); got != want || !impl.GraphOk(g) {
		t.Errorf("%q is\n%s; want\n%s", s, got, want)
	}
	return g
}

func TestLowerOfEachExpression(t *testing.T) {
	wantGraph(t, "", "b0: / s2 = 0 / ret s2")
	wantGraph(t, "put 7;", "b0: / s2 = 7 / put s2 / s3 = 0 / ret s3")
	wantGraph(t, "put 999999999;", "b0: / s2 = 999999999 / put s2 / s3 = 0 / ret s3")
	wantGraph(t, "put y;", "b0: / s2 = s1 / put s2 / s3 = 0 / ret s3")
	wantGraph(t, "put get;", "b0: / s2 = get / put s2 / s3 = 0 / ret s3")
	wantGraph(t, "put b[x];", "b0: / s2 = s0 / s3 = r1[s2] / put s3 / s4 = 0 / ret s4")
	wantGraph(t, "put a[b[1]];", "b0: / s2 = 1 / s3 = r1[s2] / s4 = r0[s3] / put s4 / s5 = 0 / ret s5")
	wantGraph(t, "ptr p in b = 0; put p[x];", "b0: / s3 = 0 / s2 = s3 / s4 = s0 / s5 = r1[s2+s4] / put s5 / s6 = 0 / ret s6")
	for _, sign := range []string{"==", "<", "&", "+", "-", "*"} {
		wantGraph(t, "put x "+sign+" 3;", "b0: / s2 = s0 / s3 = 3 / s4 = s2 "+sign+" s3 / put s4 / s5 = 0 / ret s5")
	}
	// The kids' slots come first, the left one's with all that is in it ahead of the right one's.
	wantGraph(t, "put (x - 1) * (get - a[y]);",
		"b0: / s2 = s0 / s3 = 1 / s4 = s2 - s3 / s5 = get / s6 = s1 / s7 = r0[s6] / s8 = s5 - s7 / s9 = s4 * s8 / put s9 / s10 = 0 / ret s10")
}

func TestLowerOfEachStatement(t *testing.T) {
	wantGraph(t, "x = y;", "b0: / s2 = s1 / s0 = s2 / s3 = 0 / ret s3")
	wantGraph(t, "let z = 4; let w = z;", "b0: / s4 = 4 / s2 = s4 / s5 = s2 / s3 = s5 / s6 = 0 / ret s6")
	wantGraph(t, "ptr p in a = x;", "b0: / s3 = s0 / s2 = s3 / s4 = 0 / ret s4")
	wantGraph(t, "b[x] = y;", "b0: / s2 = s0 / s3 = s1 / r1[s2] = s3 / s4 = 0 / ret s4")
	wantGraph(t, "ptr p in a = 1; p[x + 2] = p[0];",
		"b0: / s3 = 1 / s2 = s3 / s4 = s0 / s5 = 2 / s6 = s4 + s5 / s7 = 0 / s8 = r0[s2+s7] / r0[s2+s6] = s8 / s9 = 0 / ret s9")
	wantGraph(t, "if x { put 1; } else { put 2; } put 3;",
		"b0: / s2 = s0 / if s2 b1 b2 / b1: / s3 = 1 / put s3 / go b3 / b2: / s4 = 2 / put s4 / go b3 / b3: / s5 = 3 / put s5 / s6 = 0 / ret s6")
	wantGraph(t, "put 1; while x < 2 { put 3; } put 4;",
		"b0: / s2 = 1 / put s2 / go b1 / b1: / s3 = s0 / s4 = 2 / s5 = s3 < s4 / if s5 b2 b3 / b2: / s6 = 3 / put s6 / go b1 / b3: / s7 = 4 / put s7 / s8 = 0 / ret s8")
	wantGraph(t, "put 5; put x;", "b0: / s2 = 5 / put s2 / s3 = s0 / put s3 / s4 = 0 / ret s4")
}

func TestLowerOfReturns(t *testing.T) {
	wantGraph(t, "return x;", "b0: / s2 = s0 / ret s2 / b1: / s3 = 0 / ret s3")
	wantGraph(t, "put 1; return 2; put 3; put 4;",
		"b0: / s2 = 1 / put s2 / s3 = 2 / ret s3 / b1: / s4 = 3 / put s4 / s5 = 4 / put s5 / s6 = 0 / ret s6")
	wantGraph(t, "return 1; return 2;", "b0: / s2 = 1 / ret s2 / b1: / s3 = 2 / ret s3 / b2: / s4 = 0 / ret s4")
	wantGraph(t, "if x { return 1; } else { return 2; }",
		"b0: / s2 = s0 / if s2 b1 b3 / b1: / s3 = 1 / ret s3 / b2: / go b5 / b3: / s4 = 2 / ret s4 / b4: / go b5 / b5: / s5 = 0 / ret s5")
	wantGraph(t, "if x { return 1; put 2; } else { put 3; return 4; }",
		"b0: / s2 = s0 / if s2 b1 b3 / b1: / s3 = 1 / ret s3 / b2: / s4 = 2 / put s4 / go b5 / b3: / s5 = 3 / put s5 / s6 = 4 / ret s6 / b4: / go b5 / b5: / s7 = 0 / ret s7")
	wantGraph(t, "while x { return 1; } return 2;",
		"b0: / go b1 / b1: / s2 = s0 / if s2 b2 b4 / b2: / s3 = 1 / ret s3 / b3: / go b1 / b4: / s4 = 2 / ret s4 / b5: / s5 = 0 / ret s5")
	wantGraph(t, "while x { return 1; put 2; }",
		"b0: / go b1 / b1: / s2 = s0 / if s2 b2 b4 / b2: / s3 = 1 / ret s3 / b3: / s4 = 2 / put s4 / go b1 / b4: / s5 = 0 / ret s5")
	wantGraph(t, "return 1; while x { }",
		"b0: / s2 = 1 / ret s2 / b1: / go b2 / b2: / s3 = s0 / if s3 b3 b4 / b3: / go b2 / b4: / s4 = 0 / ret s4")
	wantGraph(t, "return 1; if x { } else { }",
		"b0: / s2 = 1 / ret s2 / b1: / s3 = s0 / if s3 b2 b3 / b2: / go b4 / b3: / go b4 / b4: / s4 = 0 / ret s4")
}

func TestLowerOfStatementsInStatements(t *testing.T) {
	wantGraph(t, "if x { } else { }", "b0: / s2 = s0 / if s2 b1 b2 / b1: / go b3 / b2: / go b3 / b3: / s3 = 0 / ret s3")
	wantGraph(t, "while x { }", "b0: / go b1 / b1: / s2 = s0 / if s2 b2 b3 / b2: / go b1 / b3: / s3 = 0 / ret s3")
	wantGraph(t, "while x { if y { put 1; } else { } }",
		"b0: / go b1 / b1: / s2 = s0 / if s2 b2 b6 / b2: / s3 = s1 / if s3 b3 b4 / b3: / s4 = 1 / put s4 / go b5 / b4: / go b5 / b5: / go b1 / b6: / s5 = 0 / ret s5")
	wantGraph(t, "if x { while y { put 1; } } else { while 0 { } put 2; }",
		"b0: / s2 = s0 / if s2 b1 b5 / b1: / go b2 / b2: / s3 = s1 / if s3 b3 b4 / b3: / s4 = 1 / put s4 / go b2 / b4: / go b9 / "+
			"b5: / go b6 / b6: / s5 = 0 / if s5 b7 b8 / b7: / go b6 / b8: / s6 = 2 / put s6 / go b9 / b9: / s7 = 0 / ret s7")
	wantGraph(t, "while x { while y { } }",
		"b0: / go b1 / b1: / s2 = s0 / if s2 b2 b6 / b2: / go b3 / b3: / s3 = s1 / if s3 b4 b5 / b4: / go b3 / b5: / go b1 / b6: / s4 = 0 / ret s4")
	wantGraph(t, "while x { put 1; while y { put 2; } put 3; }",
		"b0: / go b1 / b1: / s2 = s0 / if s2 b2 b6 / b2: / s3 = 1 / put s3 / go b3 / b3: / s4 = s1 / if s4 b4 b5 / b4: / s5 = 2 / put s5 / go b3 / "+
			"b5: / s6 = 3 / put s6 / go b1 / b6: / s7 = 0 / ret s7")
	wantGraph(t, "if x { if y { } else { } } else { if 1 { } else { } }",
		"b0: / s2 = s0 / if s2 b1 b5 / b1: / s3 = s1 / if s3 b2 b3 / b2: / go b4 / b3: / go b4 / b4: / go b9 / "+
			"b5: / s4 = 1 / if s4 b6 b7 / b6: / go b8 / b7: / go b8 / b8: / go b9 / b9: / s5 = 0 / ret s5")
	wantGraph(t, "while x { if y { return 1; } else { } }",
		"b0: / go b1 / b1: / s2 = s0 / if s2 b2 b7 / b2: / s3 = s1 / if s3 b3 b5 / b3: / s4 = 1 / ret s4 / b4: / go b6 / b5: / go b6 / b6: / go b1 / b7: / s5 = 0 / ret s5")
	wantGraph(t, "while x { } while y { }",
		"b0: / go b1 / b1: / s2 = s0 / if s2 b2 b3 / b2: / go b1 / b3: / go b4 / b4: / s3 = s1 / if s3 b5 b6 / b5: / go b4 / b6: / s4 = 0 / ret s4")
}

func TestLowerTellsFields(t *testing.T) {
	g := impl.Lower(whole())
	want := impl.Graph{Sizes: []int{4, 2}, Params: 2, Vars: 3, Slots: 19, Blocks: []impl.Block{
		{Code: []impl.Instr{
			{Op: impl.InMove, D: 3, A: 0}, {Op: impl.InConst, D: 4, N: 7}, {Op: impl.InBin, D: 5, A: 3, B: 4, Text: "+"}, {Op: impl.InMove, D: 2, A: 5},
			{Op: impl.InConst, D: 6, N: 1}, {Op: impl.InGet, D: 7}, {Op: impl.InLoad, D: 8, A: -1, B: 7, N: 0}, {Op: impl.InStore, A: 2, B: 6, C: 8, N: 1},
			{Op: impl.InMove, D: 9, A: 1},
		}, Jump: impl.JmIf, A: 9, To: 1, Else: 2},
		{Code: []impl.Instr{{Op: impl.InConst, D: 10, N: 1}, {Op: impl.InPut, A: 10}}, To: 3},
		{Code: []impl.Instr{{Op: impl.InConst, D: 11, N: 2}, {Op: impl.InPut, A: 11}}, To: 3},
		{To: 4},
		{Code: []impl.Instr{{Op: impl.InConst, D: 12}}, Jump: impl.JmIf, A: 12, To: 5, Else: 6},
		{Code: []impl.Instr{{Op: impl.InConst, D: 13}, {Op: impl.InLoad, D: 14, A: 1, B: 13, N: 1}, {Op: impl.InMove, D: 0, A: 14}}, To: 4},
		{Code: []impl.Instr{{Op: impl.InConst, D: 15, N: 1}, {Op: impl.InConst, D: 16, N: 2}, {Op: impl.InBin, D: 17, A: 15, B: 16, Text: "=="}}, Jump: impl.JmRet, A: 17},
		{Code: []impl.Instr{{Op: impl.InConst, D: 18}}, Jump: impl.JmRet, A: 18},
	}}
	if plain(g) != plain(want) || !impl.SameGraph(g, want) {
		t.Errorf("Lower tells %s; want %s", plain(g), plain(want))
	}
	least := impl.Lower(impl.Program{Sizes: []int{16}})
	if plain(least) != plain(impl.Graph{Sizes: []int{16}, Slots: 1, Blocks: []impl.Block{{Code: make([]impl.Instr, 1), Jump: impl.JmRet}}}) {
		t.Errorf("Lower of an empty program tells %s", plain(least))
	}
}

func TestLowerOfWhatIsNotProgramOk(t *testing.T) {
	wanted := plain(impl.Graph{})
	for name, start := range wrongStarts() {
		p, _, _ := start()
		if impl.ProgramOk(p) {
			continue
		}
		if got := plain(impl.Lower(p)); got != wanted {
			t.Errorf("%s: Lower tells %s", name, got)
		}
	}
	kids := []impl.Exp{op("+"), op("+")}
	kids[0].Kids, kids[1].Kids = kids, kids
	for _, p := range []impl.Program{{}, {Vars: -1}, prog(1, put(vari(1))), prog(1, put(kids[0])), prog(3, put(deep(impl.MaxDeep)))} {
		if got := plain(impl.Lower(p)); got != wanted {
			t.Errorf("Lower tells %s", got)
		}
	}
	if g := impl.Lower(prog(3, put(deep(impl.MaxDeep-1)), deepStmt(impl.MaxDeep-1))); !impl.GraphOk(g) {
		t.Error("Lower of the deepest program is not GraphOk")
	}
}

// sized makes an expression of that many, of at most 58, with itself.
func sized(n int) impl.Exp {
	switch n {
	case 1:
		return num(n)
	case 2:
		return load(0, -1, num(n))
	}
	return op("+", num(n), sized(n-2))
}

// withExps makes a program with so many variables and expressions, none of whose statements is a step.
func withExps(vars int, exps int) impl.Program {
	list := []impl.Stmt{}
	for exps > 0 {
		n := min(exps, 50)
		list = append(list, ret(sized(n)))
		exps -= n
	}
	return prog(vars, list...)
}

// withBlocks makes a program whose graph has that many blocks.
func withBlocks(n int) impl.Program {
	list := []impl.Stmt{}
	for n > 3 {
		a := slices.Repeat([]impl.Stmt{ret(num(1))}, min(n-4, 50))
		b := slices.Repeat([]impl.Stmt{ret(num(2))}, min(n-4-len(a), 50))
		list = append(list, iff(num(0), a, b))
		n -= 3 + len(a) + len(b)
	}
	return prog(0, append(list, slices.Repeat([]impl.Stmt{ret(num(3))}, n-1)...)...)
}

func withSteps(n int) impl.Program {
	list := []impl.Stmt{}
	for n > 3 {
		puts := slices.Repeat([]impl.Stmt{put(num(1))}, min((n-2)/2, 50))
		list = append(list, while(num(1), puts...))
		n -= 1 + 2*len(puts)
	}
	return prog(0, append(list, slices.Repeat([]impl.Stmt{ret(num(3))}, n-1)...)...)
}

func stepsOf(g impl.Graph) []impl.Instr {
	list := []impl.Instr{}
	for _, b := range g.Blocks {
		list = append(list, b.Code...)
	}
	return list
}

func TestLowerAtTheEdgesOfGraphs(t *testing.T) {
	for _, c := range []struct {
		name                 string
		p                    impl.Program
		slots, blocks, steps int
		right                bool
	}{
		{"slots", withExps(20, impl.MaxSlots-21), impl.MaxSlots, 21, impl.MaxSlots - 20, true},
		{"one slot more", withExps(20, impl.MaxSlots-20), impl.MaxSlots + 1, 21, impl.MaxSlots - 19, false},
		{"many slots", withExps(20, 2500), 2521, 51, 2501, false},
		{"one block", withBlocks(1), 1, 1, 1, true},
		{"blocks", withBlocks(impl.MaxBlocks), 294, impl.MaxBlocks, 294, true},
		{"one block more", withBlocks(impl.MaxBlocks + 1), 295, impl.MaxBlocks + 1, 295, false},
		{"many blocks", withBlocks(1000), 980, 1000, 980, false},
		{"steps", withSteps(impl.MaxCode), 506, 32, impl.MaxCode, true},
		{"one step more", withSteps(impl.MaxCode + 1), 506, 31, impl.MaxCode + 1, false},
		{"many steps", withSteps(3000), 1516, 92, 3000, false},
	} {
		g := impl.Lower(c.p)
		if g.Slots != c.slots || len(g.Blocks) != c.blocks || len(stepsOf(g)) != c.steps {
			t.Errorf("%s: %d slots, %d blocks, %d steps", c.name, g.Slots, len(g.Blocks), len(stepsOf(g)))
		}
		if !impl.ProgramOk(c.p) || impl.GraphOk(g) != c.right || (impl.ShowGraph(g) != "") != c.right || (impl.MaxSlot(g) == g.Slots-1) != c.right {
			t.Errorf("%s: GraphOk is %t, MaxSlot %d", c.name, impl.GraphOk(g), impl.MaxSlot(g))
		}
		if plain(g) != plain(drafted(c.p)) {
			t.Errorf("%s: another graph than told", c.name)
		}
		wantRightSteps(t, c.name, g)
	}
}

// wantRightSteps is promise 4.
func wantRightSteps(t *testing.T, name string, g impl.Graph) {
	t.Helper()
	there := func(slot int) bool { return 0 <= slot && slot < g.Slots }
	for i, b := range g.Blocks {
		if !impl.BlockOk(g, b) {
			t.Fatalf("%s: block %d is not BlockOk: %s", name, i, plain(b))
		}
		for _, x := range b.Code {
			if !impl.InstrOk(g, x) || impl.ShowInstr(g, x) != textOf(x) {
				t.Fatalf("%s: %s is not InstrOk, or shown as %q", name, plain(x), impl.ShowInstr(g, x))
			}
			for _, slot := range impl.Uses(x) {
				if !there(slot) {
					t.Fatalf("%s: %s uses %d of %d", name, plain(x), slot, g.Slots)
				}
			}
			if made := impl.Makes(x); !there(made) && (made != -1 || x.Op != impl.InStore && x.Op != impl.InPut) {
				t.Fatalf("%s: %s makes %d of %d", name, plain(x), made, g.Slots)
			}
		}
	}
}

// wantNewSlots tells that each slot behind the variables is made once, in order, and used in its own block, behind that.
func wantNewSlots(t *testing.T, name string, g impl.Graph) {
	t.Helper()
	next := g.Vars
	for _, b := range g.Blocks {
		first := next
		used := []int{}
		for _, x := range b.Code {
			for _, slot := range impl.Uses(x) {
				if slot >= g.Vars && (slot < first || slot >= next) {
					t.Fatalf("%s: %s uses what is not made here", name, plain(x))
				}
				used = append(used, slot)
			}
			if made := impl.Makes(x); made >= g.Vars {
				if made != next {
					t.Fatalf("%s: %s makes another slot than %d", name, plain(x), next)
				}
				next++
			}
		}
		if b.Jump != impl.JmGo {
			used = append(used, b.A)
		}
		for slot := first; slot < next; slot++ {
			if !slices.Contains(used, slot) {
				t.Fatalf("%s: slot %d is not used in its block", name, slot)
			}
		}
	}
	if next != g.Slots {
		t.Fatalf("%s: %d slots are made, Slots is %d", name, next, g.Slots)
	}
}

func TestStepsOfProgramsAreRight(t *testing.T) {
	ops, jumps, right := map[int]int{}, map[int]int{}, 0
	for seed := range int64(seeds) {
		_, p := made(seed)
		if !impl.ProgramOk(p) {
			continue
		}
		g := impl.Lower(p)
		name := fmt.Sprint("seed ", seed)
		if want := drafted(p); plain(g) != plain(want) || !impl.SameGraph(g, want) {
			t.Fatalf("%s: Lower of\n%s is\n%s; want\n%s", name, impl.ShowProgram(p), plain(g), plain(want))
		}
		wantRightSteps(t, name, g)
		wantNewSlots(t, name, g)
		for _, b := range g.Blocks {
			jumps[b.Jump]++
		}
		for _, x := range stepsOf(g) {
			ops[x.Op]++
		}
		if impl.GraphOk(g) {
			right++
			if got := impl.ShowGraph(g); got != graphText(g) {
				t.Fatalf("%s: shown as\n%s; want\n%s", name, got, graphText(g))
			}
			if impl.MaxSlot(g) != g.Slots-1 {
				t.Fatalf("%s: MaxSlot is %d of %d", name, impl.MaxSlot(g), g.Slots)
			}
		}
	}
	if len(ops) != 7 || len(jumps) != 3 || right < seeds/2 {
		t.Errorf("not each kind was made: %v, %v; %d are GraphOk", ops, jumps, right)
	}
}

// textOf is the text of a step that is right, told by patterns.
func textOf(x impl.Instr) string {
	cell := fmt.Sprintf("r%d[s%d+s%d]", x.N, x.A, x.B)
	if x.A == -1 {
		cell = fmt.Sprintf("r%d[s%d]", x.N, x.B)
	}
	return []string{
		fmt.Sprintf("s%d = %d", x.D, x.N), fmt.Sprintf("s%d = s%d", x.D, x.A), fmt.Sprintf("s%d = s%d %s s%d", x.D, x.A, x.Text, x.B),
		fmt.Sprintf("s%d = %s", x.D, cell), fmt.Sprintf("%s = s%d", cell, x.C), fmt.Sprintf("s%d = get", x.D), fmt.Sprintf("put s%d", x.A),
	}[x.Op]
}

func graphText(g impl.Graph) string {
	s := ""
	for i, b := range g.Blocks {
		s += fmt.Sprintf("b%d:\n", i)
		for _, x := range b.Code {
			s += textOf(x) + "\n"
		}
		s += []string{fmt.Sprintf("go b%d\n", b.To), fmt.Sprintf("if s%d b%d b%d\n", b.A, b.To, b.Else), fmt.Sprintf("ret s%d\n", b.A)}[b.Jump]
	}
	return s
}

// sample is a right graph with each kind of step and of Jump in it, and with the last slot, region and block; each call makes it anew.
func sample() impl.Graph {
	return impl.Graph{Sizes: []int{4, 2}, Params: 1, Vars: 2, Slots: 5, Blocks: []impl.Block{
		{Code: []impl.Instr{
			{Op: impl.InConst, D: 4, N: -12}, {Op: impl.InMove, D: 0, A: 4}, {Op: impl.InBin, D: 2, A: 4, B: 3, Text: "<"},
			{Op: impl.InLoad, D: 3, A: -1, B: 4, N: 1}, {Op: impl.InLoad, D: 4, A: 0, B: 2},
		}, Jump: impl.JmIf, A: 4, To: 2, Else: 1},
		{Code: []impl.Instr{
			{Op: impl.InStore, A: -1, B: 3, C: 4, N: 1}, {Op: impl.InStore, A: 4, B: 0, C: 1}, {Op: impl.InGet, D: 1}, {Op: impl.InPut, A: 4},
		}, Jump: impl.JmGo, To: 2},
		{Jump: impl.JmRet, A: 4},
	}}
}

func TestShowGraphOfEachKind(t *testing.T) {
	want := "b0:\ns4 = -12\ns0 = s4\ns2 = s4 < s3\ns3 = r1[s4]\ns4 = r0[s0+s2]\nif s4 b2 b1\n" +
		"b1:\nr1[s3] = s4\nr0[s4+s0] = s1\ns1 = get\nput s4\ngo b2\nb2:\nret s4\n"
	if got := impl.ShowGraph(sample()); got != want {
		t.Errorf("shown as %q; want %q", got, want)
	}
	for _, c := range []struct {
		g    impl.Graph
		want string
	}{
		{impl.Graph{Sizes: []int{1}, Blocks: []impl.Block{{}}}, "b0:\ngo b0\n"},
		{impl.Graph{Sizes: []int{1}, Slots: 1, Blocks: []impl.Block{{Jump: impl.JmRet}}}, "b0:\nret s0\n"},
		{impl.Graph{Sizes: []int{1}, Slots: 1, Blocks: []impl.Block{{Jump: impl.JmIf}}}, "b0:\nif s0 b0 b0\n"},
		{impl.Graph{Sizes: []int{1}, Slots: 1, Blocks: []impl.Block{{Code: []impl.Instr{{N: math.MinInt}, {N: math.MaxInt}}}}},
			"b0:\ns0 = -9223372036854775808\ns0 = 9223372036854775807\ngo b0\n"},
	} {
		if got := impl.ShowGraph(c.g); got != c.want {
			t.Errorf("%s shows %q; want %q", plain(c.g), got, c.want)
		}
	}
}

func wantGraphOk(t *testing.T, name string, g impl.Graph, want bool) {
	t.Helper()
	if got := impl.GraphOk(g); got != want || (impl.ShowGraph(g) != "") != want {
		t.Errorf("%s: GraphOk is %t, shown as %.80q", name, got, impl.ShowGraph(g))
	}
	if !want && impl.MaxSlot(g) != -1 {
		t.Errorf("%s: MaxSlot is %d", name, impl.MaxSlot(g))
	}
}

func gets(n int) []impl.Instr { return slices.Repeat([]impl.Instr{{Op: impl.InGet}}, n) }

// bare makes blocks without steps, each of which goes to block 0.
func bare(n int) []impl.Block { return make([]impl.Block, n) }

func TestGraphOkOfOneChange(t *testing.T) {
	wantGraphOk(t, "the graph to be changed", sample(), true)
	good := map[string]func(g *impl.Graph){
		"four regions":      func(g *impl.Graph) { g.Sizes = []int{1, 16, 1, 16} },
		"no parameter":      func(g *impl.Graph) { g.Params = 0 },
		"all parameters":    func(g *impl.Graph) { g.Params = 2 },
		"six":               func(g *impl.Graph) { g.Params, g.Vars, g.Slots = 6, 6, 6 },
		"most variables":    func(g *impl.Graph) { g.Vars, g.Slots = 20, 20 },
		"slots as Vars":     func(g *impl.Graph) { g.Params, g.Vars = 0, 5 },
		"no slot":           func(g *impl.Graph) { g.Params, g.Vars, g.Slots, g.Blocks = 0, 0, 0, bare(1) },
		"most slots":        func(g *impl.Graph) { g.Slots = impl.MaxSlots },
		"the last of most":  func(g *impl.Graph) { g.Slots = impl.MaxSlots; g.Blocks[2].A = impl.MaxSlots - 1 },
		"one block":         func(g *impl.Graph) { g.Blocks = bare(1) },
		"most blocks":       func(g *impl.Graph) { g.Blocks = bare(impl.MaxBlocks) },
		"most steps":        func(g *impl.Graph) { g.Blocks[2].Code = gets(impl.MaxCode - 9) },
		"most in one block": func(g *impl.Graph) { g.Blocks = bare(1); g.Blocks[0].Code = gets(impl.MaxCode) },
		"the last block":    func(g *impl.Graph) { g.Blocks = bare(impl.MaxBlocks); g.Blocks[9].To = impl.MaxBlocks - 1 },
		"empty lists":       func(g *impl.Graph) { g.Blocks[2].Code = []impl.Instr{} },
	}
	for name, change := range good {
		g := sample()
		change(&g)
		wantGraphOk(t, name, g, true)
	}
	for name, g := range wrongGraphs() {
		wantGraphOk(t, name, g, false)
	}
}

// wrongGraphs are graphs that are not GraphOk, each for one reason; each call makes them anew.
func wrongGraphs() map[string]impl.Graph {
	changes := map[string]func(g *impl.Graph){
		"the zero value":      func(g *impl.Graph) { *g = impl.Graph{} },
		"no region":           func(g *impl.Graph) { g.Sizes = nil },
		"no region, no step":  func(g *impl.Graph) { g.Sizes = nil; g.Blocks = bare(1) },
		"five regions":        func(g *impl.Graph) { g.Sizes = []int{1, 1, 1, 1, 1} },
		"size 0":              func(g *impl.Graph) { g.Sizes[1] = 0 },
		"size 17":             func(g *impl.Graph) { g.Sizes[0] = 17 },
		"size below 0":        func(g *impl.Graph) { g.Sizes[0] = -1 },
		"parameters below 0":  func(g *impl.Graph) { g.Params = -1 },
		"seven parameters":    func(g *impl.Graph) { g.Params, g.Vars, g.Slots = 7, 7, 7 },
		"above the variables": func(g *impl.Graph) { g.Params = 3 },
		"variables below 0":   func(g *impl.Graph) { g.Params, g.Vars = -1, -1 },
		"too many variables":  func(g *impl.Graph) { g.Vars, g.Slots = 21, 30 },
		"slots below Vars":    func(g *impl.Graph) { g.Vars = 6 },
		"slots below 0":       func(g *impl.Graph) { g.Params, g.Vars, g.Slots, g.Blocks = 0, 0, -1, bare(1) },
		"one slot less":       func(g *impl.Graph) { g.Slots = 4 },
		"one slot more":       func(g *impl.Graph) { g.Slots = impl.MaxSlots + 1 },
		"far more":            func(g *impl.Graph) { g.Slots = math.MaxInt },
		"no block":            func(g *impl.Graph) { g.Blocks = nil },
		"an empty list":       func(g *impl.Graph) { g.Blocks = []impl.Block{} },
		"one block more":      func(g *impl.Graph) { g.Blocks = bare(impl.MaxBlocks + 1) },
		"one step more":       func(g *impl.Graph) { g.Blocks[2].Code = gets(impl.MaxCode - 8) },
		"more in one block":   func(g *impl.Graph) { g.Blocks = bare(1); g.Blocks[0].Code = gets(impl.MaxCode + 1) },
		"a block gone":        func(g *impl.Graph) { g.Blocks = g.Blocks[:2] },
		"a region gone":       func(g *impl.Graph) { g.Sizes = g.Sizes[:1] },
		"a step of no Op":     func(g *impl.Graph) { g.Blocks[1].Code[3].Op = 7 },
		"a sign that is none": func(g *impl.Graph) { g.Blocks[0].Code[2].Text = "/" },
		"no sign":             func(g *impl.Graph) { g.Blocks[0].Code[2].Text = "" },
		"a sign too much":     func(g *impl.Graph) { g.Blocks[0].Code[1].Text = "+" },
		"a Jump that is none": func(g *impl.Graph) { g.Blocks[2].Jump = 3 },
		"Jump below 0":        func(g *impl.Graph) { g.Blocks[1].Jump = -1 },
		"a field too much":    func(g *impl.Graph) { g.Blocks[1].Else = 1 },
		"no block to go to":   func(g *impl.Graph) { g.Blocks[1].To = 3 },
		"a block below 0":     func(g *impl.Graph) { g.Blocks[0].Else = -1 },
	}
	graphs := map[string]impl.Graph{}
	for name, change := range changes {
		g := sample()
		change(&g)
		graphs[name] = g
	}
	return graphs
}

// farGraphs tells graphs that are not GraphOk, since their steps, and their Jumps, have any numbers.
func farGraphs(yield func(name string, g impl.Graph)) {
	far := []int{math.MinInt, -2, -1, 0, 1, 5, 1000, math.MaxInt}
	for _, op := range []int{math.MinInt, -1, 0, 1, 2, 3, 4, 5, 6, 7, 8, math.MaxInt} {
		for i := range far {
			x := impl.Instr{Op: op, D: far[i], A: far[(i+1)%8], B: far[(i+2)%8], C: far[(i+3)%8], N: far[(i+4)%8], Text: "/"}
			yield(plain(x), withCode(5, []impl.Instr{x, x}))
			yield(plain(x), impl.Graph{Slots: -1, Blocks: []impl.Block{{Code: []impl.Instr{x, x}, Jump: far[i], A: far[(i+5)%8]}}})
		}
	}
}

// fieldsOf tells of each Op what its D, A, B, C and N can be: a slot, a slot or none (-1), a region, any number, or only 0.
var fieldsOf = [7]string{"s000n", "ss000", "sss00", "sos0r", "0ossr", "s0000", "0s000"}

func fieldRight(kind byte, n int, slots int, regions int) bool {
	switch kind {
	case 's':
		return 0 <= n && n < slots
	case 'o':
		return -1 <= n && n < slots
	case 'r':
		return 0 <= n && n < regions
	case 'n':
		return true
	}
	return n == 0
}

func stepRight(x impl.Instr, slots int, regions int) bool {
	if x.Op < 0 || x.Op >= len(fieldsOf) {
		return false
	}
	for i, n := range []int{x.D, x.A, x.B, x.C, x.N} {
		if !fieldRight(fieldsOf[x.Op][i], n, slots, regions) {
			return false
		}
	}
	if x.Op == impl.InBin {
		return slices.Contains([]string{"==", "<", "&", "+", "-", "*"}, x.Text)
	}
	return x.Text == ""
}

func TestInstrOkOfAllStepsOfFewNumbers(t *testing.T) {
	g := impl.Graph{Sizes: []int{4, 2}, Params: 1, Vars: 2, Slots: 3, Blocks: make([]impl.Block, 1)}
	numbers := []int{-2, -1, 0, 1, 2, 3}
	rights := map[int]int{}
	for op := -1; op <= 7; op++ {
		for _, text := range []string{"", "+", "==", "/"} {
			for i := range 6 * 6 * 6 * 6 * 6 {
				x := impl.Instr{Op: op, D: numbers[i%6], A: numbers[i/6%6], B: numbers[i/36%6], C: numbers[i/216%6], N: numbers[i/1296], Text: text}
				want, shown := stepRight(x, 3, 2), ""
				if want {
					rights[op]++
					shown = textOf(x)
				}
				if got := impl.InstrOk(g, x); got != want {
					t.Fatalf("InstrOk of %s is %t", plain(x), got)
				}
				if got := impl.ShowInstr(g, x); got != shown {
					t.Fatalf("ShowInstr of %s is %q; want %q", plain(x), got, shown)
				}
			}
		}
	}
	if plain(rights) != plain(map[int]int{0: 3 * 6, 1: 9, 2: 27 * 2, 3: 3 * 4 * 3 * 2, 4: 4 * 3 * 3 * 2, 5: 3, 6: 3}) {
		t.Errorf("right steps: %v", rights)
	}
}

func TestInstrOkAtFarEdges(t *testing.T) {
	g := sample()
	g.Slots = impl.MaxSlots
	g.Sizes = []int{1, 1, 1, 1}
	far := []int{math.MinInt, -1000, -2, -1, 0, 3, 4, 999, 1000, math.MaxInt}
	texts := []string{"==", "<", "&", "+", "-", "*", "", "=", "/", " +", "+ ", "++", "let", "\x00", "\xff"}
	for op := range 7 {
		x := impl.Instr{Op: op}
		if op == impl.InBin {
			x.Text = "-"
		}
		for field := range 5 {
			for _, n := range far {
				y := x
				*[]*int{&y.D, &y.A, &y.B, &y.C, &y.N}[field] = n
				if got, want := impl.InstrOk(g, y), stepRight(y, impl.MaxSlots, 4); got != want {
					t.Errorf("InstrOk of %s is %t", plain(y), got)
				}
			}
		}
		for _, text := range texts {
			y := x
			y.Text = text
			if got, want := impl.InstrOk(g, y), stepRight(y, impl.MaxSlots, 4); got != want {
				t.Errorf("InstrOk of %s is %t", plain(y), got)
			}
		}
	}
	for _, op := range []int{math.MinInt, -1, 7, 8, math.MaxInt} {
		if x := (impl.Instr{Op: op}); impl.InstrOk(g, x) || impl.ShowInstr(g, x) != "" || impl.BlockOk(g, impl.Block{Code: []impl.Instr{x}}) {
			t.Errorf("a step of Op %d", op)
		}
	}
}

// Sizes and Slots alone decide of a step, and how many blocks there are of a block, not what else is wrong with the graph.
func TestStepsAndBlocksOfWrongGraphs(t *testing.T) {
	odd := impl.Graph{Sizes: []int{0, -1, 99, 5, 5, 5}, Params: 9, Vars: -3, Slots: 2000, Blocks: make([]impl.Block, 400)}
	odd.Blocks[7].Jump = 77
	x := impl.Instr{Op: impl.InLoad, D: 1999, A: 1998, B: 1997, N: 5}
	if !impl.InstrOk(odd, x) || impl.ShowInstr(odd, x) != "s1999 = r5[s1998+s1997]" || impl.InstrOk(odd, impl.Instr{D: 2000}) {
		t.Error("a step")
	}
	long := slices.Repeat([]impl.Instr{x}, impl.MaxCode+1)
	if !impl.BlockOk(odd, impl.Block{Code: long, Jump: impl.JmIf, A: 1999, To: 399, Else: 300}) || impl.BlockOk(odd, impl.Block{To: 400}) {
		t.Error("a block")
	}
	for _, g := range []impl.Graph{{}, {Slots: -5}, {Slots: math.MinInt}} {
		for op := range 7 {
			for _, n := range []int{-5, -1, 0} {
				if y := (impl.Instr{Op: op, D: n, A: n, B: n, C: n}); impl.InstrOk(g, y) || impl.ShowInstr(g, y) != "" {
					t.Errorf("%s is a step of %s", plain(y), plain(g))
				}
			}
		}
		for jump := range 3 {
			if impl.BlockOk(g, impl.Block{Jump: jump}) {
				t.Errorf("Jump %d without a block and a slot", jump)
			}
		}
	}
	if !impl.BlockOk(impl.Graph{Blocks: make([]impl.Block, 1)}, impl.Block{}) || !impl.BlockOk(impl.Graph{Slots: 1}, impl.Block{Jump: impl.JmRet}) {
		t.Error("what no region, slot or block is named for")
	}
}

func TestBlockOkOfAllJumpsOfFewNumbers(t *testing.T) {
	g := sample()
	numbers := []int{-2, -1, 0, 1, 2, 3, 4, 5, math.MinInt, math.MaxInt}
	right := 0
	for jump := -1; jump <= 3; jump++ {
		for i := range 1000 {
			b := impl.Block{Jump: jump, A: numbers[i%10], To: numbers[i/10%10], Else: numbers[i/100]}
			slot, to, other := fieldRight('s', b.A, 5, 0), fieldRight('s', b.To, 3, 0), fieldRight('s', b.Else, 3, 0)
			want := jump == impl.JmGo && b.A == 0 && to && b.Else == 0 || jump == impl.JmIf && slot && to && other || jump == impl.JmRet && slot && b.To == 0 && b.Else == 0
			if got := impl.BlockOk(g, b); got != want {
				t.Fatalf("BlockOk of %s is %t", plain(b), got)
			}
			h := sample()
			h.Blocks[2] = b
			wantGraphOk(t, plain(b), h, want)
			if want {
				right++
			}
			b.Code = []impl.Instr{{Op: impl.InGet, D: 4}, {Op: impl.InGet, D: 5}}
			if impl.BlockOk(g, b) {
				t.Fatalf("%s is BlockOk", plain(b))
			}
		}
	}
	if right != 3+5*3*3+5 {
		t.Errorf("%d blocks are right", right)
	}
	for _, b := range g.Blocks {
		if !impl.BlockOk(g, b) {
			t.Errorf("%s is not BlockOk", plain(b))
		}
	}
}

func TestUsesAndMakesOfEachOp(t *testing.T) {
	full := impl.Instr{D: 11, A: 12, B: 13, C: 14, N: 15, Text: "+"}
	for op, want := range [][]int{{}, {12}, {12, 13}, {13, 12}, {13, 12, 14}, {}, {12}} {
		x := full
		x.Op = op
		wantList(t, "Uses "+plain(x), impl.Uses(x), want...)
		makes := 11
		if op == impl.InStore || op == impl.InPut {
			makes = -1
		}
		if got := impl.Makes(x); got != makes {
			t.Errorf("Makes of %s is %d", plain(x), got)
		}
	}
	for _, none := range []int{-1, -2, math.MinInt} {
		wantList(t, "a load without base", impl.Uses(impl.Instr{Op: impl.InLoad, D: 1, A: none, B: 2}), 2)
		wantList(t, "a store without base", impl.Uses(impl.Instr{Op: impl.InStore, A: none, B: 2, C: 3}), 2, 3)
	}
	wantList(t, "base 0", impl.Uses(impl.Instr{Op: impl.InLoad, D: 1, A: 0, B: 2}), 2, 0)
	wantList(t, "base 0", impl.Uses(impl.Instr{Op: impl.InStore, A: 0, B: 2, C: 3}), 2, 0, 3)
	wantList(t, "one slot alone", impl.Uses(impl.Instr{Op: impl.InStore, A: 2, B: 2, C: 2}), 2, 2, 2)
	wantList(t, "one slot alone", impl.Uses(impl.Instr{Op: impl.InBin, D: 2, A: 2, B: 2, Text: "+"}), 2, 2)
	// What is not right is told as it stands there; no sentence has an Op that is none use a slot.
	wantList(t, "below 0", impl.Uses(impl.Instr{Op: impl.InBin, A: -7, B: -8}), -7, -8)
	wantList(t, "below 0", impl.Uses(impl.Instr{Op: impl.InPut, A: -1}), -1)
	for _, op := range []int{-1, 7, math.MinInt, math.MaxInt} {
		full.Op = op
		wantList(t, "no Op", impl.Uses(full))
		if got := impl.Makes(full); got != 11 {
			t.Errorf("Makes of Op %d is %d", op, got)
		}
	}
	if impl.Makes(impl.Instr{D: -9}) != -9 || impl.Makes(impl.Instr{Op: impl.InPut, D: 9}) != -1 {
		t.Error("Makes of what is not right")
	}
}

func TestMaxSlot(t *testing.T) {
	with := func(b impl.Block) impl.Graph {
		return impl.Graph{Sizes: []int{4}, Slots: 100, Blocks: []impl.Block{{To: 1}, b}}
	}
	for _, c := range []struct {
		b    impl.Block
		want int
	}{
		{impl.Block{}, -1}, {impl.Block{To: 1}, -1}, {impl.Block{Jump: impl.JmRet}, 0}, {impl.Block{Jump: impl.JmRet, A: 99}, 99},
		{impl.Block{Jump: impl.JmIf, A: 7, To: 1}, 7}, {impl.Block{Jump: impl.JmIf}, 0},
		{impl.Block{Code: []impl.Instr{{N: 50}}}, 0}, {impl.Block{Code: []impl.Instr{{D: 8}, {D: 3}}}, 8}, {impl.Block{Code: []impl.Instr{{D: 8}}, Jump: impl.JmRet, A: 9}, 9},
		{impl.Block{Code: []impl.Instr{{Op: impl.InMove, D: 3, A: 4}}}, 4}, {impl.Block{Code: []impl.Instr{{Op: impl.InMove, D: 4, A: 3}}}, 4},
		{impl.Block{Code: []impl.Instr{{Op: impl.InBin, D: 1, A: 2, B: 3, Text: "+"}}}, 3}, {impl.Block{Code: []impl.Instr{{Op: impl.InBin, D: 1, A: 5, B: 3, Text: "+"}}}, 5},
		{impl.Block{Code: []impl.Instr{{Op: impl.InLoad, D: 1, A: 6, B: 3}}}, 6}, {impl.Block{Code: []impl.Instr{{Op: impl.InLoad, D: 1, A: -1, B: 3}}}, 3},
		{impl.Block{Code: []impl.Instr{{Op: impl.InStore, A: 6, B: 3, C: 2}}}, 6}, {impl.Block{Code: []impl.Instr{{Op: impl.InStore, A: -1, B: 3, C: 5}}}, 5},
		{impl.Block{Code: []impl.Instr{{Op: impl.InGet, D: 12}}}, 12}, {impl.Block{Code: []impl.Instr{{Op: impl.InPut, A: 13}, {Op: impl.InPut}}}, 13},
		{impl.Block{Code: []impl.Instr{{D: 100}}}, -1}, {impl.Block{To: 2}, -1},
	} {
		if got := impl.MaxSlot(with(c.b)); got != c.want {
			t.Errorf("MaxSlot with %s is %d; want %d", plain(c.b), got, c.want)
		}
	}
	if got := impl.MaxSlot(sample()); got != 4 {
		t.Errorf("MaxSlot is %d", got)
	}
}

func TestSameGraphIsAlikeInAll(t *testing.T) {
	changes := map[string]func(g *impl.Graph){
		"a size":      func(g *impl.Graph) { g.Sizes[1]++ },
		"a region":    func(g *impl.Graph) { g.Sizes = append(g.Sizes, 1) },
		"no region":   func(g *impl.Graph) { g.Sizes = nil },
		"Params":      func(g *impl.Graph) { g.Params++ },
		"Vars":        func(g *impl.Graph) { g.Vars++ },
		"Slots":       func(g *impl.Graph) { g.Slots++ },
		"a block":     func(g *impl.Graph) { g.Blocks = append(g.Blocks, impl.Block{}) },
		"one less":    func(g *impl.Graph) { g.Blocks = g.Blocks[:2] },
		"no block":    func(g *impl.Graph) { g.Blocks = nil },
		"order":       func(g *impl.Graph) { g.Blocks[0], g.Blocks[1] = g.Blocks[1], g.Blocks[0] },
		"a step":      func(g *impl.Graph) { g.Blocks[2].Code = make([]impl.Instr, 1) },
		"a step less": func(g *impl.Graph) { g.Blocks[1].Code = g.Blocks[1].Code[:3] },
		"Jump":        func(g *impl.Graph) { g.Blocks[0].Jump = 9 },
		"A":           func(g *impl.Graph) { g.Blocks[0].A++ },
		"To":          func(g *impl.Graph) { g.Blocks[0].To++ },
		"Else":        func(g *impl.Graph) { g.Blocks[0].Else++ },
		"a last To":   func(g *impl.Graph) { g.Blocks[2].To++ },
		"Op":          func(g *impl.Graph) { g.Blocks[1].Code[3].Op++ },
		"a step's D":  func(g *impl.Graph) { g.Blocks[0].Code[2].D++ },
		"a step's A":  func(g *impl.Graph) { g.Blocks[0].Code[2].A++ },
		"a step's B":  func(g *impl.Graph) { g.Blocks[0].Code[2].B++ },
		"a step's C":  func(g *impl.Graph) { g.Blocks[0].Code[2].C++ },
		"a step's N":  func(g *impl.Graph) { g.Blocks[0].Code[2].N++ },
		"Text":        func(g *impl.Graph) { g.Blocks[0].Code[2].Text = "==" },
		"into one": func(g *impl.Graph) {
			g.Blocks[0].Code, g.Blocks[1].Code = append(g.Blocks[0].Code, g.Blocks[1].Code...), nil
		},
	}
	graphs := []impl.Graph{sample(), {}, impl.Lower(whole())}
	for _, change := range changes {
		g := sample()
		change(&g)
		graphs = append(graphs, g)
	}
	for i, a := range graphs {
		for j, b := range graphs {
			if got := impl.SameGraph(a, otherGraph(b)); got != (i == j) {
				t.Errorf("SameGraph(%s, %s) = %t", plain(a), plain(b), got)
			}
		}
	}
}

// otherGraph makes a copy that shares no memory and has empty lists where there is nil.
func otherGraph(g impl.Graph) impl.Graph {
	g.Sizes = append([]int{}, g.Sizes...)
	list := []impl.Block{}
	for _, b := range g.Blocks {
		b.Code = append([]impl.Instr{}, b.Code...)
		list = append(list, b)
	}
	g.Blocks = list
	return g
}

// roomy makes a copy with spare room behind each list, and tells all that is in it.
func roomy(g impl.Graph) (impl.Graph, func() string) {
	g.Sizes = append(make([]int, 0, 9), g.Sizes...)
	g.Blocks = append(make([]impl.Block, 0, len(g.Blocks)+3), g.Blocks...)
	for i, b := range g.Blocks {
		g.Blocks[i].Code = append(make([]impl.Instr, 0, len(b.Code)+3), b.Code...)
	}
	return g, func() string {
		s := plain(g) + plain(g.Sizes[:9]) + plain(g.Blocks[:cap(g.Blocks)])
		for _, b := range g.Blocks {
			s += plain(b.Code[:cap(b.Code)])
		}
		return s
	}
}

func TestGraphsAreNotWrittenInto(t *testing.T) {
	graphs := []impl.Graph{{}, sample(), impl.Lower(whole()), {Slots: -1, Blocks: []impl.Block{{Jump: 9, Code: []impl.Instr{{Op: 9}}}}}}
	for seed := range int64(100) {
		_, p := made(seed)
		p.Sizes = append(make([]int, 0, 9), p.Sizes...)
		p.Body = append(make([]impl.Stmt, 0, 60), p.Body...)
		ahead := plain([]any{p, p.Sizes[:9], p.Body[:60]})
		graphs = append(graphs, impl.Lower(p))
		if plain([]any{p, p.Sizes[:9], p.Body[:60]}) != ahead {
			t.Fatalf("seed %d: Lower writes into its program", seed)
		}
	}
	for _, g := range graphs {
		g, tell := roomy(g)
		ahead := tell()
		impl.GraphOk(g)
		impl.ShowGraph(g)
		impl.SameGraph(g, sample())
		impl.SameGraph(g, otherGraph(g))
		impl.MaxSlot(g)
		for _, b := range g.Blocks {
			impl.BlockOk(g, b)
			for _, x := range b.Code {
				impl.InstrOk(g, x)
				impl.ShowInstr(g, x)
				impl.Uses(x)
				impl.Makes(x)
			}
		}
		if tell() != ahead {
			t.Fatalf("written into: %s", plain(g))
		}
	}
}

func TestAnswersOfBlocksAreNewMemory(t *testing.T) {
	for seed := range int64(200) {
		_, p := made(seed)
		if !impl.ProgramOk(p) {
			continue
		}
		ahead, g := plain(p), impl.Lower(p)
		want := plain(g)
		_ = append(g.Sizes, -7)
		_ = append(g.Blocks, impl.Block{Jump: -7})
		for _, b := range g.Blocks {
			_ = append(b.Code, impl.Instr{Op: -7})
		}
		if plain(g) != want {
			t.Fatalf("seed %d: two lists share memory", seed)
		}
		for i := range g.Sizes {
			g.Sizes[i] = -7
		}
		for i := range g.Blocks {
			for j := range g.Blocks[i].Code {
				g.Blocks[i].Code[j] = impl.Instr{Op: -7}
			}
			g.Blocks[i] = impl.Block{Jump: -7}
		}
		if plain(p) != ahead || plain(impl.Lower(p)) != want {
			t.Fatalf("seed %d: the graph shares memory with its program", seed)
		}
	}
	p := parsed(t, body("put x == y;"))
	g := impl.Lower(p)
	if within(g.Blocks[0].Code[2].Text, p.Body[0].Exps[0].Text) {
		t.Error("the sign shares memory with the program")
	}
	store := impl.Instr{Op: impl.InStore, A: 1, B: 2, C: 3}
	uses := impl.Uses(store)
	uses[0] = 77
	wantList(t, "Uses", impl.Uses(store), 2, 1, 3)
}
