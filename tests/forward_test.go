package tests

import (
	"fmt"
	"math"
	"slices"
	"strings"
	"testing"

	"loop.example/g00385/impl"
)

// codeText tells the steps of a block, with a stroke between two.
func codeText(code []impl.Instr) string {
	list := []string{}
	for _, x := range code {
		list = append(list, textOf(x))
	}
	return strings.Join(list, " / ")
}

// wantForward tells the steps of a block with 5 slots what they become.
func wantForward(t *testing.T, steps string, want string) {
	t.Helper()
	g := blockOf(t, 5, steps)
	f := impl.Forward(g)
	if len(f.Blocks) != 1 || codeText(f.Blocks[0].Code) != want || !impl.GraphOk(f) {
		t.Errorf("%q becomes %s; want %q", steps, plain(f), want)
	}
	wantCounts(t, steps, g, strings.Count(" / "+steps, "= r"), strings.Count(" / "+steps, "/ r"))
	wantCounts(t, want, f, strings.Count(" / "+want, "= r"), strings.Count(" / "+want, "/ r"))
}

func wantCounts(t *testing.T, name string, g impl.Graph, loads int, stores int) {
	t.Helper()
	if impl.Loads(g) != loads || impl.Stores(g) != stores {
		t.Errorf("%s: %d loads and %d stores; want %d and %d", name, impl.Loads(g), impl.Stores(g), loads, stores)
	}
}

// wantKept tells that no step of a block becomes another one.
func wantKept(t *testing.T, steps string) {
	t.Helper()
	wantForward(t, steps, steps)
}

func TestForwardOfALoadBehindALoad(t *testing.T) {
	wantKept(t, "s1 = r0[s0]")
	wantForward(t, "s1 = r0[s0] / s2 = r0[s0]", "s1 = r0[s0] / s2 = s1")
	wantForward(t, "s1 = r0[s0] / s2 = r0[s0] / s3 = r0[s0] / s4 = r0[s0]", "s1 = r0[s0] / s2 = s1 / s3 = s1 / s4 = s1")
	wantForward(t, "s2 = r1[s0+s1] / s3 = r1[s1+s0]", "s2 = r1[s0+s1] / s3 = s2")
	wantForward(t, "s1 = r0[s0] / s2 = r1[s0] / s3 = r0[s0] / s4 = r1[s0]", "s1 = r0[s0] / s2 = r1[s0] / s3 = s1 / s4 = s2")
	wantKept(t, "s1 = r0[s0] / s2 = r1[s0]")
	// Another place, and one that may be another.
	wantKept(t, "s4 = 1 / s1 = r0[s0] / s2 = r0[s0+s4]")
	wantKept(t, "s1 = r0[s0] / s2 = r0[s3]")
	// One place by other slots.
	wantForward(t, "s1 = r0[s0] / s3 = s0 / s2 = r0[s3]", "s1 = r0[s0] / s3 = s0 / s2 = s1")
	wantForward(t, "s4 = 0 / s1 = r0[s0+s4] / s2 = r0[s0]", "s4 = 0 / s1 = r0[s0+s4] / s2 = s1")
	wantForward(t, "s4 = 2 / s1 = r0[s4] / s3 = 1 / s3 = s3 + s3 / s2 = r0[s3]", "s4 = 2 / s1 = r0[s4] / s3 = 1 / s3 = s3 + s3 / s2 = s1")
	// One slot, and two places.
	wantKept(t, "s1 = r0[s0] / s0 = get / s2 = r0[s0]")
	wantKept(t, "s4 = 1 / s1 = r0[s0] / s0 = s0 + s4 / s2 = r0[s0]")
}

func TestForwardOfALoadBehindAStore(t *testing.T) {
	wantKept(t, "r0[s0] = s1")
	wantForward(t, "r0[s0] = s1 / s2 = r0[s0]", "r0[s0] = s1 / s2 = s1")
	wantForward(t, "r0[s0] = s0 / s2 = r0[s0]", "r0[s0] = s0 / s2 = s0")
	wantForward(t, "r0[s0+s3] = s3 / s2 = r0[s3+s0]", "r0[s0+s3] = s3 / s2 = s3")
	wantForward(t, "r0[s0] = s1 / r1[s0] = s3 / s2 = r0[s0] / s4 = r1[s0]", "r0[s0] = s1 / r1[s0] = s3 / s2 = s1 / s4 = s3")
	wantKept(t, "r0[s0] = s1 / s2 = r1[s0]")
	wantKept(t, "r0[s0] = s1 / s2 = r0[s3]")
	wantKept(t, "s4 = 1 / r0[s0] = s1 / s2 = r0[s0+s4]")
	// A put takes nothing.
	wantForward(t, "r0[s0] = s1 / put s1 / put s0 / s2 = r0[s0]", "r0[s0] = s1 / put s1 / put s0 / s2 = s1")
	wantForward(t, "s0 = r0[s1] / put s0 / s2 = r0[s1]", "s0 = r0[s1] / put s0 / s2 = s0")
	// Of slot 0, too, which no store and no put makes.
	wantForward(t, "r0[s1] = s0 / r1[s1] = s2 / s3 = r0[s1]", "r0[s1] = s0 / r1[s1] = s2 / s3 = s0")
	wantForward(t, "r1[s1] = s0 / s3 = r1[s1]", "r1[s1] = s0 / s3 = s0")
}

func TestForwardOfALoadIntoASlotOfItsOwnPlace(t *testing.T) {
	wantKept(t, "s0 = r0[s0]")
	// Slot 0 tells another place by then.
	wantKept(t, "s0 = r0[s0] / s0 = r0[s0]")
	wantKept(t, "s0 = r0[s0] / s1 = r0[s0]")
	wantKept(t, "s0 = r0[s0+s1] / s2 = r0[s0+s1]")
	wantKept(t, "s1 = r0[s0+s1] / s2 = r0[s0+s1]")
	// The place that it was loaded from is told by a copy.
	wantForward(t, "s1 = s0 / s0 = r0[s0] / s2 = r0[s1]", "s1 = s0 / s0 = r0[s0] / s2 = s0")
	wantForward(t, "s1 = s0 / s0 = r0[s0] / s1 = r0[s1] / s2 = r0[s1]", "s1 = s0 / s0 = r0[s0] / s1 = s0 / s2 = r0[s1]")
	wantForward(t, "s1 = 3 / s1 = r0[s1] / s2 = 3 / s2 = r0[s2]", "s1 = 3 / s1 = r0[s1] / s2 = 3 / s2 = s1")
	// As it becomes an InMove, too.
	wantForward(t, "r0[s0] = s1 / s0 = r0[s0] / s2 = r0[s0]", "r0[s0] = s1 / s0 = s1 / s2 = r0[s0]")
	wantForward(t, "r0[s0] = s1 / s2 = s0 / s0 = r0[s0] / s3 = r0[s2]", "r0[s0] = s1 / s2 = s0 / s0 = s1 / s3 = s1")
	// What the slot becomes is told as what it is: a number of which nothing is known, and not what it is moved from.
	wantForward(t, "r0[s0] = s1 / s0 = r0[s0] / r0[s1] = s2 / s3 = r0[s0]", "r0[s0] = s1 / s0 = s1 / r0[s1] = s2 / s3 = r0[s0]")
}

func TestForwardTakesPairsOfTheSlotThatALoadMakes(t *testing.T) {
	// Behind an InMove that a load became.
	wantForward(t, "r0[s0] = s1 / r1[s0] = s2 / s2 = r0[s0] / s3 = r1[s0] / s4 = r0[s0]",
		"r0[s0] = s1 / r1[s0] = s2 / s2 = s1 / s3 = r1[s0] / s4 = s1")
	wantForward(t, "s1 = r0[s0] / s2 = r1[s0] / s1 = r1[s0] / s3 = r0[s0] / s4 = r1[s0]",
		"s1 = r0[s0] / s2 = r1[s0] / s1 = s2 / s3 = r0[s0] / s4 = s2")
	// More than one pair goes.
	wantForward(t, "r0[s0] = s1 / r1[s0] = s1 / r1[s2] = s4 / s1 = r1[s2] / s3 = r1[s0] / s3 = r0[s0]",
		"r0[s0] = s1 / r1[s0] = s1 / r1[s2] = s4 / s1 = s4 / s3 = r1[s0] / s3 = r0[s0]")
	// It brings no pair of its own: what it was moved from is made anew.
	wantForward(t, "s1 = r0[s0] / s2 = r0[s0] / s1 = 7 / s3 = r0[s0]", "s1 = r0[s0] / s2 = s1 / s1 = 7 / s3 = r0[s0]")
	// Behind another load.
	wantForward(t, "r0[s0] = s1 / s1 = r1[s0] / s2 = r0[s0] / s3 = r1[s0]", "r0[s0] = s1 / s1 = r1[s0] / s2 = r0[s0] / s3 = s1")
	wantKept(t, "s1 = r0[s0] / s1 = r0[s2] / s3 = r0[s0]")
}

func TestForwardOfALoadIntoTheSlotThatHasIt(t *testing.T) {
	// It becomes an InMove of its own D, whose pair goes: the next load stays, and brings a pair.
	wantForward(t, "s1 = r0[s0] / s1 = r0[s0]", "s1 = r0[s0] / s1 = s1")
	wantForward(t, "s1 = r0[s0] / s1 = r0[s0] / s1 = r0[s0]", "s1 = r0[s0] / s1 = s1 / s1 = r0[s0]")
	wantForward(t, "s1 = r0[s0] / s1 = r0[s0] / s2 = r0[s0] / s3 = r0[s0]", "s1 = r0[s0] / s1 = s1 / s2 = r0[s0] / s3 = s2")
	wantForward(t, "r0[s0] = s1 / s1 = r0[s0] / s1 = r0[s0] / s1 = r0[s0]", "r0[s0] = s1 / s1 = s1 / s1 = r0[s0] / s1 = s1")
	wantForward(t, "s2 = s0 / r0[s0] = s0 / s0 = r0[s0] / s1 = r0[s0]", "s2 = s0 / r0[s0] = s0 / s0 = s0 / s1 = r0[s0]")
	// A step of the block that moves a slot into itself makes it anew, too.
	wantKept(t, "r0[s0] = s1 / s1 = s1 / s2 = r0[s0]")
}

func TestForwardBehindEachStepThatMakesASlotAnew(t *testing.T) {
	for _, anew := range []string{"s1 = 5", "s1 = s3", "s1 = s1", "s1 = s3 + s2", "s1 = s1 - s1", "s1 = s0 & s1", "s1 = get", "s1 = r1[s0]", "s1 = r0[s3]", "s1 = r0[s1+s1]"} {
		wantKept(t, "r0[s0] = s1 / "+anew+" / s4 = r0[s0]")
		wantKept(t, "s1 = r0[s0] / "+anew+" / s4 = r0[s0]")
		// Of another slot the pair stays.
		wantForward(t, "r0[s0] = s2 / "+anew+" / s4 = r0[s0]", "r0[s0] = s2 / "+anew+" / s4 = s2")
		wantForward(t, "s2 = r0[s0] / "+anew+" / s4 = r0[s0]", "s2 = r0[s0] / "+anew+" / s4 = s2")
		// What is stored ahead of it is not what is stored behind it.
		wantForward(t, "r0[s0] = s1 / "+anew+" / r0[s0] = s1 / s4 = r0[s0]", "r0[s0] = s1 / "+anew+" / r0[s0] = s1 / s4 = s1")
		// One that went comes again, behind all others.
		wantForward(t, "r0[s0] = s1 / r1[s2] = s3 / "+anew+" / s4 = r0[s0] / s3 = r0[s0]", "r0[s0] = s1 / r1[s2] = s3 / "+anew+" / s4 = r0[s0] / s3 = s4")
	}
	// The slots of the place are made anew: the place has what it had, and is told by none of them.
	wantKept(t, "r0[s0] = s1 / s0 = 5 / s2 = r0[s0]")
	wantForward(t, "s3 = s0 / r0[s0] = s1 / s0 = 5 / s2 = r0[s3]", "s3 = s0 / r0[s0] = s1 / s0 = 5 / s2 = s1")
}

func TestForwardBehindAStoreThatMayBeThere(t *testing.T) {
	wantKept(t, "s2 = r0[s0] / r0[s1] = s3 / s4 = r0[s0]")
	wantKept(t, "r0[s0] = s2 / r0[s1] = s3 / s4 = r0[s0]")
	wantKept(t, "r0[s0] = s2 / r0[s0+s1] = s3 / s4 = r0[s0]")
	wantKept(t, "s4 = 1 / s2 = r0[s4] / r0[s1] = s3 / s4 = r0[s4]")
	// Another region, or another place for sure.
	wantForward(t, "s2 = r0[s0] / r1[s1] = s3 / s4 = r0[s0]", "s2 = r0[s0] / r1[s1] = s3 / s4 = s2")
	wantForward(t, "s2 = r0[s0] / s1 = 1 / r0[s0+s1] = s3 / s4 = r0[s0]", "s2 = r0[s0] / s1 = 1 / r0[s0+s1] = s3 / s4 = s2")
	wantForward(t, "r0[s0] = s2 / s1 = 1 / r0[s0+s1] = s3 / s4 = r0[s0] / s0 = r0[s0+s1]", "r0[s0] = s2 / s1 = 1 / r0[s0+s1] = s3 / s4 = s2 / s0 = s3")
	// Of several pairs those go that may be there, and the others stay.
	wantForward(t, "s4 = 1 / r0[s0] = s1 / r0[s0+s4] = s2 / r1[s0] = s3 / r0[s0] = s3 / s1 = r0[s0] / s1 = r0[s0+s4] / s1 = r1[s0]",
		"s4 = 1 / r0[s0] = s1 / r0[s0+s4] = s2 / r1[s0] = s3 / r0[s0] = s3 / s1 = s3 / s1 = s2 / s1 = s3")
	wantForward(t, "s4 = 1 / r0[s0] = s1 / r0[s0+s4] = s2 / r1[s0] = s3 / r0[s3] = s3 / s1 = r0[s0] / s1 = r0[s0+s4] / s1 = r1[s0] / s1 = r0[s3]",
		"s4 = 1 / r0[s0] = s1 / r0[s0+s4] = s2 / r1[s0] = s3 / r0[s3] = s3 / s1 = r0[s0] / s1 = r0[s0+s4] / s1 = s3 / s1 = s3")
	// A load that may be there takes nothing.
	wantForward(t, "r0[s0] = s1 / s2 = r0[s3] / s4 = r0[s0] / s0 = r0[s3]", "r0[s0] = s1 / s2 = r0[s3] / s4 = s1 / s0 = s2")
}

func TestForwardBehindTwoStoresOfOnePlace(t *testing.T) {
	wantForward(t, "r0[s0] = s1 / r0[s0] = s2 / s3 = r0[s0]", "r0[s0] = s1 / r0[s0] = s2 / s3 = s2")
	wantForward(t, "r0[s0] = s2 / r0[s0] = s1 / r0[s0] = s2 / s3 = r0[s0] / s1 = r0[s0]", "r0[s0] = s2 / r0[s0] = s1 / r0[s0] = s2 / s3 = s2 / s1 = s2")
	wantForward(t, "s1 = r0[s0] / r0[s0] = s2 / s3 = r0[s0]", "s1 = r0[s0] / r0[s0] = s2 / s3 = s2")
	// The first one comes not back when the second one goes.
	wantKept(t, "r0[s0] = s1 / r0[s0] = s2 / s2 = 4 / s3 = r0[s0]")
	wantKept(t, "r0[s0] = s1 / r0[s3] = s2 / s2 = 4 / s3 = r0[s0]")
	wantForward(t, "r0[s0] = s1 / s2 = r0[s0] / r0[s0] = s2 / s3 = r0[s0]", "r0[s0] = s1 / s2 = s1 / r0[s0] = s2 / s3 = s2")
}

func TestForwardBeginsEachBlockAnew(t *testing.T) {
	for _, c := range []struct{ text, want string }{
		{"b0: / r0[s0] = s1 / go b1 / b1: / s2 = r0[s0] / s3 = r0[s0] / ret s2", "b0: / r0[s0] = s1 / go b1 / b1: / s2 = r0[s0] / s3 = s2 / ret s2"},
		{"b0: / s2 = r0[s0] / if s2 b0 b1 / b1: / ret s2", "b0: / s2 = r0[s0] / if s2 b0 b1 / b1: / ret s2"},
		{"b0: / s2 = r0[s0] / s3 = r0[s0] / if s2 b1 b2 / b1: / go b2 / b2: / s1 = r0[s0] / s2 = r0[s0] / ret s3",
			"b0: / s2 = r0[s0] / s3 = s2 / if s2 b1 b2 / b1: / go b2 / b2: / s1 = r0[s0] / s2 = s1 / ret s3"},
		// Nobody comes to block 1.
		{"b0: / ret s0 / b1: / r1[s0] = s0 / s1 = r1[s0] / go b1", "b0: / ret s0 / b1: / r1[s0] = s0 / s1 = s0 / go b1"},
		{"b0: / go b0", "b0: / go b0"},
		{"b0: / if s1 b1 b0 / b1: / ret s3", "b0: / if s1 b1 b0 / b1: / ret s3"},
	} {
		g, want := graphOf(t, 2, 4, c.text), graphOf(t, 2, 4, c.want)
		if got := impl.Forward(g); plain(got) != plain(want) || !impl.SameGraph(got, want) {
			t.Errorf("%q becomes %s; want %q", c.text, plain(got), c.want)
		}
	}
	wantForward(t, "", "")
	if got := impl.Forward(withCode(0, nil)); !impl.SameGraph(got, withCode(0, nil)) {
		t.Errorf("a graph without slots becomes %s", plain(got))
	}
}

func TestForwardTellsFields(t *testing.T) {
	store := impl.Instr{Op: impl.InStore, A: 2, B: 3, C: 1, N: 1}
	sum := impl.Instr{Op: impl.InBin, D: 4, A: 3, B: 2, Text: "+"}
	g := impl.Graph{Sizes: []int{7, 16, 1}, Params: 1, Vars: 2, Slots: 5, Blocks: []impl.Block{
		{Code: []impl.Instr{store, sum, {Op: impl.InLoad, D: 4, A: 3, B: 2, N: 1}}, Jump: impl.JmIf, A: 3, To: 1, Else: 0},
		{Jump: impl.JmRet, A: 4},
	}}
	want := otherGraph(g)
	want.Blocks[0].Code[2] = impl.Instr{Op: impl.InMove, D: 4, A: 1}
	if got := impl.Forward(g); plain(got) != plain(want) || !impl.SameGraph(got, want) {
		t.Errorf("Forward tells %s; want %s", plain(got), plain(want))
	}
	wantCounts(t, "the graph", g, 1, 1)
	wantCounts(t, "its Forward", want, 0, 1)
}

func TestForwardOfPrograms(t *testing.T) {
	for _, c := range []struct {
		body            string
		loads, left, to int
	}{
		{"", 0, 0, 0},
		{"a[x] = y; put a[x];", 1, 0, 1},
		{"put a[x]; put a[x]; put b[x];", 3, 2, 0},
		{"put a[x] + a[x] * a[x];", 3, 1, 0},
		{"a[x + 1] = y; put a[1 + x]; put a[x - 1 + 2]; put a[x];", 3, 1, 1},
		{"ptr p in a = x; p[1] = y; put a[x + 1]; p = p + 1; put p[0]; put p[1];", 3, 1, 1},
		{"a[0] = 1; a[1] = 2; b[0] = 3; put a[0] + a[1] + b[0];", 3, 0, 3},
		{"a[x] = 1; a[y] = 2; put a[x]; put a[y];", 2, 1, 2},
		{"a[x] = 1; if y { put a[x]; put a[x]; } else { } put a[x];", 3, 2, 1},
		{"a[0] = 4; while a[0] { a[0] = a[0] - 1; put a[0]; }", 3, 2, 2},
		// Places are those of the graph as it was: each load of a[0] makes a new base, though it becomes a move.
		{"put a[a[0]]; put a[a[0]]; a[0] = a[a[0]];", 6, 4, 1},
		{"x = a[x]; put a[x]; x = a[x]; put a[x];", 4, 3, 0},
	} {
		p := parsed(t, body(c.body))
		g := impl.Lower(p)
		wantCounts(t, c.body, g, c.loads, c.to)
		wantCounts(t, "Forward of "+c.body, impl.Forward(g), c.left, c.to)
		for _, args := range [][]int{{0, 0}, {0, 1}, {1, 2}, {2, 2}, {3, 0}, {-1, 7}} {
			wantSameForwarded(t, c.body, g, args, nil)
			if got, want := impl.Walk(impl.Forward(g), args, nil, impl.MaxFuel), impl.Mean(p, args, nil, 1000); !impl.SameEnd(got, want) {
				t.Errorf("%q with %v ends %+v; its text means %+v", c.body, args, got, want)
			}
		}
	}
}

// wantSameForwarded is promise 7 of a graph that is GraphOk: a load and a move take alike, so that each fuel tells the same. It tells by how many loads Forward has less.
func wantSameForwarded(t *testing.T, name string, g impl.Graph, args []int, input []int) int {
	t.Helper()
	f := impl.Forward(g)
	want, most := keptForward(g)
	if plain(f) != plain(want) || !impl.SameGraph(f, want) || !impl.GraphOk(f) {
		t.Fatalf("%s: Forward of\n%stells %s; want\n%s", name, graphText(g), plain(f), graphText(want))
	}
	// Of more than one pair the first would count; there is never more than one.
	if most > 1 {
		t.Fatalf("%s: a load of\n%shas the Place of %d pairs", name, graphText(g), most)
	}
	less := impl.Loads(g) - impl.Loads(f)
	if less < 0 || impl.Stores(f) != impl.Stores(g) {
		t.Fatalf("%s: Forward of\n%shas %d loads and %d stores", name, graphText(g), impl.Loads(f), impl.Stores(f))
	}
	for _, fuel := range []int{0, 1, 2, 3, 5, 8, 13, 40, 100, 1000, impl.MaxFuel} {
		if got, want := impl.Walk(f, args, input, fuel), impl.Walk(g, args, input, fuel); !impl.SameEnd(got, want) {
			t.Fatalf("%s: Forward of\n%swith %v / %v and %d of fuel ends %+v; without %+v", name, graphText(g), args, input, fuel, got, want)
		}
	}
	return less
}

func TestForwardedGraphsDoTheSame(t *testing.T) {
	done, less := 0, 0
	for seed := range int64(seeds) {
		g, args, input := memoryGraph(seed)
		gone := wantSameForwarded(t, fmt.Sprint("memory ", seed), g, args, input)
		if gone > 0 && impl.Walk(g, args, input, impl.MaxFuel).Code == impl.EndDone {
			done++
			less += gone
		}
	}
	if done < seeds/10 || less < seeds/5 {
		t.Errorf("only %d graphs with %d loads less end", done, less)
	}
	for seed := range int64(seeds / 3) {
		g, args, input := madeGraph(seed)
		wantSameForwarded(t, fmt.Sprint("graph ", seed), g, args, input)
	}
	// Numbers that are no places, and what no walk is begun with.
	for seed := range int64(seeds / 10) {
		g, _, _ := memoryGraph(seed)
		for _, args := range [][]int{{math.MaxInt, math.MinInt}, {-1, 4}, {3, -3}, {0}, nil, {0, 0, 0}} {
			wantSameForwarded(t, fmt.Sprint("memory ", seed), g, args, []int{math.MinInt, 5, math.MaxInt})
		}
		wantSameForwarded(t, fmt.Sprint("memory ", seed), g, []int{0, 1}, make([]int, 100+seed%2))
	}
	wantSameForwarded(t, "each kind", sample(), []int{3}, []int{4})
	shapes(2, func(g impl.Graph) { wantSameForwarded(t, "a shape", g, nil, nil) })
}

func TestForwardedProgramsDoWhatTheyMean(t *testing.T) {
	done, less := 0, 0
	for seed := range int64(seeds / 3) {
		text := memoryProgram(seed)
		p := parsed(t, text)
		g := impl.Lower(p)
		if !impl.GraphOk(g) {
			continue
		}
		for _, args := range [][]int{{0, 1}, {1, 0}, {2, 2}, {1, int(seed % 5)}} {
			input := []int{int(seed % 3), 1, 0, 2}
			gone := wantSameForwarded(t, text, g, args, input)
			mean := impl.Mean(p, args, input, 1000)
			if mean.Code == impl.EndFuel {
				continue
			}
			if got := impl.Walk(impl.Forward(g), args, input, impl.MaxFuel); !impl.SameEnd(got, mean) {
				t.Fatalf("%s with %v / %v: Forward ends %+v; its text means %+v", text, args, input, got, mean)
			}
			if mean.Code == impl.EndDone && gone > 0 {
				done++
				less += gone
			}
		}
	}
	if done < seeds/10 || less < seeds/5 {
		t.Errorf("only %d programs with %d loads less end", done, less)
	}
	for seed := range int64(seeds / 3) {
		p, args, input := start(seed)
		if g := impl.Lower(p); impl.GraphOk(g) {
			wantSameForwarded(t, fmt.Sprint("program ", seed), g, args, input)
		}
	}
}

// memorySteps are a few steps that load, store and make slots 0 to 2.
func memorySteps(t *testing.T) []impl.Instr {
	t.Helper()
	list := []impl.Instr{}
	for _, line := range []string{
		"r0[s0] = s1", "r0[s1] = s0", "r0[s0] = s2", "r0[s1] = s1", "r1[s0] = s1",
		"s0 = r0[s0]", "s1 = r0[s0]", "s2 = r0[s0]", "s1 = r0[s1]", "s2 = r0[s1]", "s2 = r1[s0]",
		"s0 = 1", "s1 = s0", "s0 = s0 + s1", "s2 = get", "put s2",
	} {
		list = append(list, stepOf(t, line))
	}
	return list
}

func TestForwardOfAllBlocksOfFewSteps(t *testing.T) {
	steps := memorySteps(t)
	behind := []impl.Instr{}
	for slot := range 3 {
		behind = append(behind, impl.Instr{Op: impl.InPut, A: slot})
	}
	less := 0
	for i := range 16 * 16 * 16 * 16 {
		code := []impl.Instr{steps[i/4096], steps[i/256%16], steps[i/16%16], steps[i%16]}
		g := impl.Graph{Sizes: []int{4, 2}, Params: 2, Vars: 2, Slots: 3, Blocks: []impl.Block{{Code: append(code, behind...), Jump: impl.JmRet}}}
		f := impl.Forward(g)
		want, most := keptForward(g)
		if !impl.SameGraph(f, want) || most > 1 {
			t.Fatalf("%q becomes %q; want %q", codeText(code), codeText(f.Blocks[0].Code), codeText(want.Blocks[0].Code))
		}
		if impl.SameGraph(f, g) {
			continue
		}
		less++
		for _, args := range [][]int{{0, 0}, {0, 1}, {1, 0}, {1, 1}, {3, 2}, {2, 9}} {
			if got, want := impl.Walk(f, args, []int{2}, 100), impl.Walk(g, args, []int{2}, 100); !impl.SameEnd(got, want) {
				t.Fatalf("%q with %v ends %+v; without %+v", codeText(code), args, got, want)
			}
		}
	}
	if less < 10000 {
		t.Errorf("only %d blocks have loads of what is known", less)
	}
}

func TestForwardOfMostSteps(t *testing.T) {
	last := impl.MaxSlots - 1
	// Each second load is of its own D, whose pair goes.
	own := withCode(impl.MaxSlots, slices.Repeat([]impl.Instr{{Op: impl.InLoad, D: last, A: -1, B: 0}}, impl.MaxCode))
	f := impl.Forward(own)
	wantCounts(t, "into one slot", f, impl.MaxCode/2, 0)
	if x := f.Blocks[0].Code; len(x) != impl.MaxCode || x[998] != own.Blocks[0].Code[0] || x[999] != (impl.Instr{Op: impl.InMove, D: last, A: last}) {
		t.Errorf("the last steps become %s", plain(x[998:]))
	}
	// One place is loaded into each slot, that of its own last.
	each := withCode(impl.MaxSlots, nil)
	for i := range impl.MaxCode {
		each.Blocks[0].Code = append(each.Blocks[0].Code, impl.Instr{Op: impl.InLoad, D: last - i, A: 0, B: 0, N: 1})
	}
	f = impl.Forward(each)
	wantCounts(t, "into each slot", f, 1, 0)
	if x := f.Blocks[0].Code[999]; x != (impl.Instr{Op: impl.InMove, D: 0, A: last}) {
		t.Errorf("the last step becomes %s", plain(x))
	}
	// Places that surely are not one, so that all pairs stay; and places that may be one, so that only the last stays.
	apart, near := withCode(impl.MaxSlots, nil), withCode(impl.MaxSlots, nil)
	for slot := range 333 {
		apart.Blocks[0].Code = append(apart.Blocks[0].Code, impl.Instr{D: slot, N: slot}, impl.Instr{Op: impl.InStore, A: -1, B: slot, C: slot})
		near.Blocks[0].Code = append(near.Blocks[0].Code, impl.Instr{Op: impl.InStore, A: -1, B: slot, C: slot})
	}
	for slot := range 333 {
		x := impl.Instr{Op: impl.InLoad, D: 400 + slot, A: -1, B: slot}
		apart.Blocks[0].Code, near.Blocks[0].Code = append(apart.Blocks[0].Code, x), append(near.Blocks[0].Code, x)
	}
	wantCounts(t, "apart", impl.Forward(apart), 0, 333)
	wantCounts(t, "near", impl.Forward(near), 332, 333)
}

func TestForwardAtTheEdgesOfGraphs(t *testing.T) {
	known := []impl.Instr{{Op: impl.InStore, A: -1}, {Op: impl.InLoad, A: -1, D: 1}, {Op: impl.InLoad, A: -1, D: 2}}
	most := impl.Graph{Sizes: []int{1}, Slots: impl.MaxSlots, Blocks: bare(impl.MaxBlocks)}
	for i := range most.Blocks {
		most.Blocks[i].Code = known
	}
	most.Blocks[0].Code = slices.Concat(known, gets(impl.MaxCode-3*impl.MaxBlocks))
	wantCounts(t, "most of all", most, 2*impl.MaxBlocks, impl.MaxBlocks)
	wantCounts(t, "Forward of most of all", impl.Forward(most), 0, impl.MaxBlocks)
	for name, change := range map[string]func(g *impl.Graph){
		"one step more":  func(g *impl.Graph) { g.Blocks[0].Code = append(g.Blocks[0].Code, gets(1)...) },
		"one slot more":  func(g *impl.Graph) { g.Slots++ },
		"one block more": func(g *impl.Graph) { g.Blocks = append(g.Blocks, impl.Block{}) },
	} {
		g := otherGraph(most)
		change(&g)
		wantWrongForward(t, name, g)
		wantCounts(t, name, g, 2*impl.MaxBlocks, impl.MaxBlocks)
	}
}

// wantWrongForward tells a graph that is not GraphOk as its own Forward, with all its loads and stores.
func wantWrongForward(t *testing.T, name string, g impl.Graph) {
	t.Helper()
	if got := impl.Forward(g); impl.GraphOk(g) || plain(got) != plain(g) || !impl.SameGraph(got, g) {
		t.Errorf("%s: Forward tells %s; want %s", name, plain(got), plain(g))
	}
	ops := map[int]int{}
	for _, x := range stepsOf(g) {
		ops[x.Op]++
	}
	wantCounts(t, name, g, ops[impl.InLoad], ops[impl.InStore])
}

func TestForwardOfWrongGraphs(t *testing.T) {
	for name, g := range wrongGraphs() {
		wantWrongForward(t, name, g)
	}
	// What is known would not be loaded, were the graph right.
	const known = "r0[s0] = s1 / s2 = r0[s0] / s3 = r0[s0]"
	wantForward(t, known, "r0[s0] = s1 / s2 = s1 / s3 = s1")
	for name, change := range map[string]func(g *impl.Graph){
		"a slot behind the last":    func(g *impl.Graph) { g.Blocks[0].Code = append(g.Blocks[0].Code, impl.Instr{D: 5}) },
		"a slot below 0":            func(g *impl.Graph) { g.Blocks[0].Code[0].C = -1 },
		"an Op that is none":        func(g *impl.Graph) { g.Blocks[0].Code = append(g.Blocks[0].Code, impl.Instr{Op: 7}) },
		"a Jump that is none":       func(g *impl.Graph) { g.Blocks[0].Jump = 3 },
		"another block is wrong":    func(g *impl.Graph) { g.Blocks = append(g.Blocks, impl.Block{To: 2}) },
		"a region that is too long": func(g *impl.Graph) { g.Sizes[0] = impl.MaxSize + 1 },
		"too many parameters":       func(g *impl.Graph) { g.Params = 7 },
	} {
		g := blockOf(t, 5, known)
		change(&g)
		wantWrongForward(t, name, g)
		wantCounts(t, name, g, 2, 1)
	}
	for _, p := range []impl.Program{withExps(20, impl.MaxSlots-20), withBlocks(impl.MaxBlocks + 1), withSteps(impl.MaxCode + 1)} {
		wantWrongForward(t, "a long program", impl.Lower(p))
	}
	farGraphs(func(name string, g impl.Graph) { wantWrongForward(t, name, g) })
}

func TestLoadsAndStores(t *testing.T) {
	wantCounts(t, "the zero value", impl.Graph{}, 0, 0)
	wantCounts(t, "no block", impl.Graph{Sizes: []int{1}, Slots: 3}, 0, 0)
	wantCounts(t, "no step", withCode(3, nil), 0, 0)
	wantCounts(t, "each kind", sample(), 2, 2)
	wantCounts(t, "gets", withCode(3, gets(7)), 0, 0)
	wantCounts(t, "one block", blockOf(t, 3, "s0 = r0[s1] / r1[s0] = s1 / s1 = s0 / s0 = r0[s1+s2] / put s0 / s0 = r1[s0]"), 3, 1)
	wantCounts(t, "two blocks", graphOf(t, 1, 3, "b0: / s0 = r0[s1] / r1[s0] = s1 / go b1 / b1: / r0[s2] = s1 / r0[s2] = s1 / s0 = r0[s1] / ret s0"), 2, 3)
	wantCounts(t, "nobody comes there", graphOf(t, 1, 3, "b0: / ret s0 / b1: / r0[s2] = s1 / go b1 / b2: / s0 = r0[s1] / go b1"), 1, 1)
	// A step counts by its Op alone.
	odd := impl.Graph{Slots: -7, Blocks: []impl.Block{{Jump: 9}, {Code: []impl.Instr{{Op: 3, D: -1, Text: "="}, {Op: 4, B: 99}, {Op: 7}, {Op: -3}, {Op: 3, N: -8}}}}}
	wantCounts(t, "a wrong graph", odd, 2, 1)
	long := impl.Graph{Blocks: []impl.Block{{Code: slices.Repeat([]impl.Instr{{Op: 3}}, 5000)}, {Code: slices.Repeat([]impl.Instr{{Op: 4}}, 4000)}}}
	wantCounts(t, "a long graph", long, 5000, 4000)
}

// forwardGraphs are right and wrong ones.
func forwardGraphs(yield func(g impl.Graph)) {
	someGraphs(func(g impl.Graph, _ []int, _ []int) { yield(g) })
	for seed := range int64(200) {
		g, _, _ := memoryGraph(seed)
		yield(g)
		g.Slots = impl.MaxSlots + 1
		yield(g)
	}
}

func TestForwardWritesIntoNothing(t *testing.T) {
	forwardGraphs(func(g impl.Graph) {
		g, tell := roomy(g)
		ahead := tell()
		impl.Forward(g)
		impl.Loads(g)
		impl.Stores(g)
		if tell() != ahead {
			t.Fatalf("written into: %s", plain(g))
		}
	})
}

func TestAnswersOfForwardAreNewMemory(t *testing.T) {
	forwardGraphs(func(g impl.Graph) {
		tell := func() string { return plain([]any{g, impl.Forward(g), impl.Loads(g), impl.Stores(g)}) }
		ahead := tell()
		f, want := impl.Forward(g), plain(impl.Forward(g))
		for _, b := range f.Blocks {
			_ = append(b.Code, impl.Instr{Op: -7})
			for _, x := range b.Code {
				for _, y := range stepsOf(g) {
					if within(x.Text, y.Text) {
						t.Fatalf("a sign of Forward shares memory with %s", plain(g))
					}
				}
			}
		}
		_, _ = append(f.Blocks, impl.Block{Jump: -7}), append(f.Sizes, -7)
		if plain(f) != want {
			t.Fatalf("two lists of Forward of %s share memory", plain(g))
		}
		spoilGraph(f)
		if tell() != ahead {
			t.Fatalf("Forward shares memory with %s", plain(g))
		}
	})
	// Where an argument's lists share memory, those of the answer do not.
	code := append(make([]impl.Instr, 0, 9), blockOf(t, 3, "r0[s0] = s1 / s2 = r0[s0]").Blocks[0].Code...)
	blocks := bare(2)
	blocks[0].Code, blocks[1].Code = code, code
	for _, g := range []impl.Graph{{Sizes: []int{4}, Slots: 3, Blocks: blocks}, {Blocks: blocks}} {
		f := impl.Forward(g)
		want := plain(f.Blocks[1].Code)
		f.Blocks[0].Code[0].D = 9
		if plain(f.Blocks[1].Code) != want || code[0].D == 9 || code[1].Op != impl.InLoad {
			t.Error("Forward keeps what lists share")
		}
	}
}
