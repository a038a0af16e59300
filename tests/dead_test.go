package tests

import (
	"fmt"
	"math"
	"slices"
	"strings"
	"testing"

	"loop.example/g00385/impl"
)

// wantDead tells the steps of a block with 5 slots what is left without stores that are stored over unseen.
func wantDead(t *testing.T, steps string, want string) {
	t.Helper()
	g := blockOf(t, 5, steps)
	d := impl.DeadStores(g)
	if len(d.Blocks) != 1 || codeText(d.Blocks[0].Code) != want || !impl.GraphOk(d) {
		t.Errorf("%q becomes %s; want %q", steps, plain(d), want)
	}
}

// wantSeen tells that each store of a block stays.
func wantSeen(t *testing.T, steps string) {
	t.Helper()
	wantDead(t, steps, steps)
}

func TestDeadStoresOfStoresThatAreStoredOver(t *testing.T) {
	wantSeen(t, "")
	wantSeen(t, "r0[s0] = s1")
	// By the next one, and by one further on.
	wantDead(t, "r0[s0] = s1 / r0[s0] = s2", "r0[s0] = s2")
	wantDead(t, "r0[s0] = s1 / r0[s0] = s1", "r0[s0] = s1")
	wantDead(t, "r0[s0] = s1 / s3 = 4 / s4 = s3 / s2 = s3 * s4 / s1 = get / r0[s0] = s2", "s3 = 4 / s4 = s3 / s2 = s3 * s4 / s1 = get / r0[s0] = s2")
	wantDead(t, "s2 = r0[s0] / r0[s0] = s1 / r0[s0] = s2 / s3 = r0[s0] / put s3", "s2 = r0[s0] / r0[s0] = s2 / s3 = r0[s0] / put s3")
	// Of three of one place the last one stays.
	wantDead(t, "r0[s0] = s1 / r0[s0] = s2 / r0[s0] = s3", "r0[s0] = s3")
	wantDead(t, "r0[s0] = s1 / r1[s0] = s4 / r0[s0] = s2 / r1[s0] = s4 / r0[s0] = s3", "r1[s0] = s4 / r0[s0] = s3")
	wantDead(t, "r0[s0] = s1 / r0[s0] = s2 / put s0 / r0[s0] = s3", "r0[s0] = s2 / put s0 / r0[s0] = s3")
	wantDead(t, "r0[s0] = s1 / put s0 / r0[s0] = s2 / r0[s0] = s3", "r0[s0] = s1 / put s0 / r0[s0] = s3")
	// One place by other slots.
	wantDead(t, "r0[s0+s1] = s2 / r0[s1+s0] = s3", "r0[s1+s0] = s3")
	wantDead(t, "s3 = s0 / r0[s3] = s1 / r0[s0] = s2", "s3 = s0 / r0[s0] = s2")
	wantDead(t, "s4 = 0 / r0[s0+s4] = s1 / r0[s0] = s2", "s4 = 0 / r0[s0] = s2")
	wantDead(t, "s4 = 2 / r0[s4] = s1 / s3 = 1 / s3 = s3 + s3 / r0[s3] = s2", "s4 = 2 / s3 = 1 / s3 = s3 + s3 / r0[s3] = s2")
	// One slot, and two places.
	wantSeen(t, "r0[s0] = s1 / s0 = get / r0[s0] = s1")
	wantSeen(t, "s4 = 1 / r0[s0] = s1 / s0 = s0 + s4 / r0[s0] = s1")
	wantSeen(t, "r0[s0] = s1 / s0 = r0[s0] / r0[s0] = s1")
}

func TestDeadStoresOfTwoPlaces(t *testing.T) {
	// Surely another one.
	wantSeen(t, "r0[s0] = s1 / r1[s0] = s1")
	wantSeen(t, "s4 = 1 / r0[s0] = s1 / r0[s0+s4] = s2")
	wantDead(t, "r0[s0] = s1 / r1[s0] = s2 / r0[s0] = s3 / r1[s0] = s4", "r0[s0] = s3 / r1[s0] = s4")
	wantDead(t, "r0[s0] = s1 / r1[s0] = s2 / r1[s0] = s3 / r0[s0] = s4", "r1[s0] = s3 / r0[s0] = s4")
	wantDead(t, "s4 = 1 / r0[s0] = s1 / r0[s0+s4] = s2 / r0[s0+s4] = s3 / r0[s0] = s3", "s4 = 1 / r0[s0+s4] = s3 / r0[s0] = s3")
	// One that may be: it stores over nothing for sure, and sees nothing.
	wantSeen(t, "r0[s0] = s1 / r0[s2] = s3")
	wantSeen(t, "r0[s0] = s1 / r0[s0+s2] = s3")
	wantDead(t, "r0[s0] = s1 / r0[s2] = s3 / r0[s0] = s4", "r0[s2] = s3 / r0[s0] = s4")
	wantDead(t, "r0[s0] = s1 / r0[s2] = s3 / r0[s0] = s4 / r0[s2] = s1", "r0[s0] = s4 / r0[s2] = s1")
	wantDead(t, "r0[s0] = s1 / r0[s2] = s3 / r0[s2] = s4 / r0[s0] = s1", "r0[s2] = s4 / r0[s0] = s1")
}

func TestDeadStoresWithAPutBetween(t *testing.T) {
	wantSeen(t, "r0[s0] = s1 / put s2 / r0[s0] = s3")
	wantSeen(t, "r0[s0] = s1 / r1[s0] = s1 / put s0 / r1[s0] = s2 / r0[s0] = s2")
	// Behind both, or ahead of both, it changes nothing.
	wantDead(t, "put s1 / r0[s0] = s1 / r0[s0] = s3 / put s3", "put s1 / r0[s0] = s3 / put s3")
	wantDead(t, "r0[s0] = s1 / r0[s0] = s2 / put s2 / r0[s0] = s3 / r0[s0] = s4", "r0[s0] = s2 / put s2 / r0[s0] = s4")
	// The first store traps ahead of what is put out.
	g := graphOf(t, 1, 2, "b0: / r0[s0] = s1 / put s0 / r0[s0] = s1 / ret s0")
	wantEnd(t, "a trap ahead of a put", impl.Walk(impl.DeadStores(g), []int{4}, nil, 100), "trap")
	wantEnd(t, "no trap", impl.Walk(impl.DeadStores(g), []int{3}, nil, 100), "done 3 3")
}

func TestDeadStoresWithALoadBetween(t *testing.T) {
	// Of the place, of one that may be it, and of another one.
	wantSeen(t, "r0[s0] = s1 / s2 = r0[s0] / r0[s0] = s3")
	wantSeen(t, "r0[s0] = s1 / s2 = r0[s4] / r0[s0] = s3")
	wantSeen(t, "r0[s0] = s1 / s2 = r0[s0+s4] / r0[s0] = s3")
	wantDead(t, "r0[s0] = s1 / s2 = r1[s0] / r0[s0] = s3", "s2 = r1[s0] / r0[s0] = s3")
	wantDead(t, "s4 = 1 / r0[s0] = s1 / s2 = r0[s0+s4] / r0[s0] = s3", "s4 = 1 / s2 = r0[s0+s4] / r0[s0] = s3")
	// Of several places those go that it may see, and the others stay.
	wantDead(t, "r0[s0] = s1 / r1[s0] = s1 / s2 = r0[s0] / r1[s0] = s3 / r0[s0] = s3", "r0[s0] = s1 / s2 = r0[s0] / r1[s0] = s3 / r0[s0] = s3")
	wantDead(t, "s4 = 1 / r0[s0] = s1 / r0[s0+s4] = s1 / r0[s3] = s1 / s2 = r0[s0] / r0[s3] = s2 / r0[s0+s4] = s2 / r0[s0] = s2",
		"s4 = 1 / r0[s0] = s1 / r0[s3] = s1 / s2 = r0[s0] / r0[s3] = s2 / r0[s0+s4] = s2 / r0[s0] = s2")
	// Behind both, or ahead of both, it changes nothing.
	wantDead(t, "s2 = r0[s0] / r0[s0] = s1 / r0[s0] = s3 / s4 = r0[s0]", "s2 = r0[s0] / r0[s0] = s3 / s4 = r0[s0]")
	// A load into a slot of the place, which tells another one from then on.
	wantDead(t, "s2 = s0 / r0[s0] = s1 / s0 = r1[s0] / r0[s2] = s1", "s2 = s0 / s0 = r1[s0] / r0[s2] = s1")
}

func TestDeadStoresWithATrapBetween(t *testing.T) {
	for _, c := range []struct {
		text string
		gone int
	}{
		{"b0: / r0[s0] = s1 / r1[s1] = s0 / r0[s0] = s0 / ret s0", 1},
		{"b0: / r0[s0] = s1 / s2 = r1[s1] / r0[s0] = s0 / ret s0", 1},
		{"b0: / put s0 / r0[s0] = s1 / s2 = r1[s1] / r0[s0] = s0 / put s2 / ret s0", 1},
		{"b0: / r0[s0] = s1 / put s0 / r1[s1] = s0 / r0[s0] = s0 / ret s0", 0},
		{"b0: / r0[s0] = s1 / r1[s1] = s0 / r0[s0] = s0 / r1[s1] = s1 / go b1 / b1: / s2 = r0[s0] / put s2 / s2 = r1[s1] / put s2 / ret s1", 2},
	} {
		g := graphOf(t, 2, 3, c.text)
		if got := impl.Stores(g) - impl.Stores(impl.DeadStores(g)); got != c.gone {
			t.Errorf("%q: %d stores go", c.text, got)
		}
		ends := map[int]int{}
		for _, a := range []int{-1, 0, 1, 2, 3, 4, math.MinInt, math.MaxInt} {
			for _, b := range []int{-1, 0, 1, 2, 3} {
				wantSameDead(t, c.text, g, []int{a, b}, nil)
				ends[impl.Walk(g, []int{a, b}, nil, 100).Code]++
			}
		}
		if ends[impl.EndDone] != 8 || ends[impl.EndTrap] != 32 {
			t.Errorf("%q ends %v", c.text, ends)
		}
	}
	// What stays traps later than what went, but puts no more out.
	g := graphOf(t, 1, 2, "b0: / put s0 / r0[s0] = s1 / s1 = get / s1 = get / s1 = get / r0[s0] = s1 / put s1 / ret s0")
	d := impl.DeadStores(g)
	wantEnd(t, "stored twice", impl.Walk(g, []int{9}, nil, 100), "trap 9")
	wantEnd(t, "stored once", impl.Walk(d, []int{9}, nil, 100), "trap 9")
	if impl.Steps(g, []int{9}, nil) != 2 || impl.Steps(d, []int{9}, nil) != 5 {
		t.Errorf("takes %d and %d", impl.Steps(g, []int{9}, nil), impl.Steps(d, []int{9}, nil))
	}
}

func TestDeadStoresBeginEachBlockAnew(t *testing.T) {
	for _, c := range []struct{ text, want string }{
		// The last store of a block stays, though the next block stores over it.
		{"b0: / r0[s0] = s1 / go b1 / b1: / r0[s0] = s2 / ret s2", "b0: / r0[s0] = s1 / go b1 / b1: / r0[s0] = s2 / ret s2"},
		{"b0: / r0[s0] = s2 / r0[s0] = s1 / go b1 / b1: / r0[s0] = s1 / r0[s0] = s2 / ret s2", "b0: / r0[s0] = s1 / go b1 / b1: / r0[s0] = s2 / ret s2"},
		// Block 1 is told behind block 0, and ahead of it.
		{"b0: / r0[s0] = s1 / go b2 / b1: / r0[s0] = s1 / go b0 / b2: / r0[s0] = s1 / go b1", "b0: / r0[s0] = s1 / go b2 / b1: / r0[s0] = s1 / go b0 / b2: / r0[s0] = s1 / go b1"},
		{"b0: / r0[s0] = s1 / if s0 b0 b1 / b1: / ret s2", "b0: / r0[s0] = s1 / if s0 b0 b1 / b1: / ret s2"},
		// Nobody comes to block 1.
		{"b0: / ret s0 / b1: / r1[s0] = s0 / r1[s0] = s1 / go b1", "b0: / ret s0 / b1: / r1[s0] = s1 / go b1"},
		{"b0: / go b0", "b0: / go b0"},
		// A slot is another place in each block.
		{"b0: / s0 = 1 / r0[s0] = s1 / go b1 / b1: / r0[s0] = s1 / s0 = 1 / r0[s0] = s1 / ret s0", "b0: / s0 = 1 / r0[s0] = s1 / go b1 / b1: / r0[s0] = s1 / s0 = 1 / r0[s0] = s1 / ret s0"},
	} {
		g, want := graphOf(t, 2, 4, c.text), graphOf(t, 2, 4, c.want)
		if got := impl.DeadStores(g); plain(got) != plain(want) || !impl.SameGraph(got, want) {
			t.Errorf("%q becomes %s; want %q", c.text, plain(got), c.want)
		}
	}
	if got := impl.DeadStores(withCode(0, nil)); !impl.SameGraph(got, withCode(0, nil)) {
		t.Errorf("a graph without slots becomes %s", plain(got))
	}
}

// wantLive tells a graph of 5 slots, block by block, the slots that are live behind it: their numbers with a blank between two, and a stroke between two blocks.
func wantLive(t *testing.T, text string, want string) {
	t.Helper()
	list := []string{}
	for _, slots := range impl.Live(graphOf(t, 2, 5, text)) {
		list = append(list, strings.Trim(plain(slots), "[]"))
	}
	if got := strings.Join(list, "/"); got != want {
		t.Errorf("%q: live %q; want %q", text, got, want)
	}
}

func TestLiveOverWays(t *testing.T) {
	wantLive(t, "b0: / ret s0", "")
	wantLive(t, "b0: / s1 = s0 / go b1 / b1: / put s1 / ret s0", "0 1/")
	// Used two blocks ahead, and not made between.
	wantLive(t, "b0: / s3 = 1 / go b1 / b1: / s2 = 5 / go b2 / b2: / put s3 / ret s2", "3/2 3/")
	wantLive(t, "b0: / s3 = 1 / go b1 / b1: / s3 = 5 / go b2 / b2: / put s3 / ret s2", "2/2 3/")
	// Over a branch: by one way, by the other, by both.
	wantLive(t, "b0: / if s0 b1 b2 / b1: / put s1 / go b3 / b2: / put s2 / go b3 / b3: / ret s3", "1 2 3/3/3/")
	wantLive(t, "b0: / if s0 b1 b2 / b1: / s3 = 1 / go b3 / b2: / s4 = s3 / go b3 / b3: / ret s4", "3 4/4/4/")
	wantLive(t, "b0: / if s0 b1 b2 / b1: / s3 = 1 / go b3 / b2: / s3 = 2 / go b3 / b3: / ret s3", "/3/3/")
	wantLive(t, "b0: / if s0 b1 b1 / b1: / ret s3", "3/")
	// Over a loop: what is used in it, and behind it.
	wantLive(t, "b0: / s2 = 3 / go b1 / b1: / if s2 b2 b3 / b2: / s2 = s2 - s0 / go b1 / b3: / ret s1", "0 1 2/0 1 2/0 1 2/")
	wantLive(t, "b0: / go b1 / b1: / s2 = get / if s2 b2 b3 / b2: / put s2 / go b1 / b3: / ret s3", "3/2 3/3/")
	// A way that never ends.
	wantLive(t, "b0: / s4 = s3 / go b1 / b1: / put s2 / go b0", "2 3/2 3")
	wantLive(t, "b0: / s0 = 1 / go b0", "")
	// The greatest slot and the least, told in their order.
	wantLive(t, "b0: / go b1 / b1: / put s4 / put s2 / put s0 / put s3 / put s1 / put s4 / ret s2", "0 1 2 3 4/")
}

func TestLiveOfStepsAndJumps(t *testing.T) {
	for _, c := range []struct{ step, want string }{
		{"s1 = 5", ""}, {"s1 = s2", "2"}, {"s1 = s3 + s2", "2 3"}, {"s1 = s3 * s3", "3"}, {"s1 = get", ""}, {"put s3", "3"},
		{"s1 = r0[s2]", "2"}, {"s1 = r0[s3+s2]", "2 3"}, {"r0[s2] = s1", "1 2"}, {"r0[s4+s2] = s1", "1 2 4"}, {"r0[s2+s2] = s2", "2"},
		// A step that uses the slot that it makes.
		{"s1 = s1", "1"}, {"s1 = s1 + s2", "1 2"}, {"s1 = s2 - s1", "1 2"}, {"s1 = r0[s1]", "1"}, {"s1 = r0[s1+s2]", "1 2"},
		// Made again behind its use, and ahead of it.
		{"put s1 / s1 = 5", "1"}, {"s1 = 5 / put s1", ""}, {"s1 = 5 / s1 = s1 + s1", ""}, {"s1 = get / put s1 / s1 = s2", "2"},
		{"s1 = r0[s2] / s2 = s1", "2"}, {"s2 = s1 / s1 = s2", "1"}, {"put s1 / s1 = 5 / put s1", "1"}, {"s1 = 4 / s2 = 5 / put s2 / put s1", ""},
	} {
		// The block behind, which goes to itself alone, uses no slot.
		wantLive(t, "b0: / go b1 / b1: / "+c.step+" / go b2 / b2: / go b2", c.want+"//")
		// Behind a block that goes to itself is what is used in it first.
		wantLive(t, "b0: / "+c.step+" / go b0", c.want)
	}
	// A slot that only a Jump uses; a JmGo uses none, not even slot 0.
	wantLive(t, "b0: / go b1 / b1: / ret s4", "4/")
	wantLive(t, "b0: / go b1 / b1: / if s3 b1 b2 / b2: / go b2", "3/3/")
	wantLive(t, "b0: / go b1 / b1: / go b2 / b2: / go b2", "//")
	wantLive(t, "b0: / go b1 / b1: / s4 = 1 / ret s4", "/")
	wantLive(t, "b0: / go b1 / b1: / s4 = s4 / ret s4", "4/")
	// Nobody comes to block 1; and block 2 alone comes to block 1.
	wantLive(t, "b0: / ret s0 / b1: / go b0", "/0")
	wantLive(t, "b0: / ret s0 / b1: / put s1 / go b0 / b2: / s0 = 1 / go b1", "/0/0 1")
	wantLive(t, "b0: / ret s0 / b1: / put s1 / go b1", "/1")
	// What just a step uses that nobody wants is used.
	wantLive(t, "b0: / go b1 / b1: / s2 = s1 / ret s0", "0 1/")
}

// wantClean tells a graph of 5 slots what is left without values that nobody wants.
func wantClean(t *testing.T, text string, want string) {
	t.Helper()
	g, w := graphOf(t, 2, 5, text), graphOf(t, 2, 5, want)
	if got := impl.Clean(g); plain(got) != plain(w) || !impl.SameGraph(got, w) {
		t.Errorf("%q becomes %s; want %q", text, plain(got), want)
	}
}

// wantWanted tells that all steps of a graph stay.
func wantWanted(t *testing.T, text string) {
	t.Helper()
	wantClean(t, text, text)
}

func TestCleanOfOneBlock(t *testing.T) {
	wantWanted(t, "b0: / ret s0")
	for _, step := range []string{"s1 = 5", "s1 = s2", "s1 = s1", "s1 = s3 + s2", "s1 = s1 * s1", "s1 = s0 == s1"} {
		wantClean(t, "b0: / "+step+" / ret s0", "b0: / ret s0")
		wantClean(t, "b0: / put s1 / "+step+" / put s0 / ret s2", "b0: / put s1 / put s0 / ret s2")
		// Used by a Jump, by a step of each kind, and in each place of it.
		wantWanted(t, "b0: / "+step+" / ret s1")
		wantWanted(t, "b0: / "+step+" / if s1 b1 b2 / b1: / go b1 / b2: / go b2")
		for _, use := range []string{"put s1", "r0[s1] = s0", "r0[s0] = s1", "r0[s1+s0] = s2", "s0 = r1[s1]", "s0 = r1[s1+s2]", "s1 = r0[s1]"} {
			wantWanted(t, "b0: / "+step+" / "+use+" / ret s4")
		}
		for _, use := range []string{"s4 = s1", "s4 = s1 + s0", "s4 = s0 - s1", "s4 = s1 & s1"} {
			wantWanted(t, "b0: / "+step+" / "+use+" / ret s4")
			wantClean(t, "b0: / "+step+" / "+use+" / ret s3", "b0: / ret s3")
		}
		// Made again ahead of its use, and behind it.
		for _, again := range []string{"s1 = 7", "s1 = s4", "s1 = s4 + s4", "s1 = r0[s0]", "s1 = get"} {
			wantClean(t, "b0: / "+step+" / "+again+" / ret s1", "b0: / "+again+" / ret s1")
			wantWanted(t, "b0: / "+step+" / put s1 / "+again+" / ret s1")
		}
		wantWanted(t, "b0: / "+step+" / s1 = s1 + s0 / ret s1")
		wantClean(t, "b0: / "+step+" / put s1 / "+step+" / ret s0", "b0: / "+step+" / put s1 / ret s0")
		wantClean(t, "b0: / "+step+" / go b0", map[bool]string{true: "b0: / " + step + " / go b0", false: "b0: / go b0"}[strings.Count(step, "s1") > 1])
	}
	// A JmGo does not use slot 0.
	wantClean(t, "b0: / s0 = 5 / go b1 / b1: / go b1", "b0: / go b1 / b1: / go b1")
}

func TestCleanOfWhatJustAStepUsesThatGoes(t *testing.T) {
	wantClean(t, "b0: / s1 = 5 / s2 = s1 / s3 = s2 + s1 / s4 = s3 / ret s0", "b0: / ret s0")
	wantClean(t, "b0: / s1 = 5 / s2 = s1 / s3 = s2 + s1 / s4 = s3 / ret s2", "b0: / s1 = 5 / s2 = s1 / ret s2")
	wantClean(t, "b0: / s1 = 5 / s1 = s1 + s1 / s1 = s1 + s1 / ret s0", "b0: / ret s0")
	wantClean(t, "b0: / s1 = 5 / s1 = s1 + s1 / put s1 / s1 = s1 + s1 / ret s0", "b0: / s1 = 5 / s1 = s1 + s1 / put s1 / ret s0")
	wantClean(t, "b0: / s2 = 1 / s3 = s2 / s2 = 4 / ret s2", "b0: / s2 = 4 / ret s2")
	// A load and a get stay, and with a load what it uses.
	wantClean(t, "b0: / s1 = 5 / s2 = r0[s1] / s3 = s2 / ret s0", "b0: / s1 = 5 / s2 = r0[s1] / ret s0")
	wantClean(t, "b0: / s1 = 5 / s2 = s0 / s3 = r0[s1+s2] / ret s0", "b0: / s1 = 5 / s2 = s0 / s3 = r0[s1+s2] / ret s0")
	wantClean(t, "b0: / s1 = get / s2 = s1 / ret s0", "b0: / s1 = get / ret s0")
}

func TestCleanKeepsAllButThreeKinds(t *testing.T) {
	// Nobody wants what is loaded or taken: a load may trap, and what is taken is taken.
	wantWanted(t, "b0: / s1 = r0[s0] / s2 = get / s3 = r1[s0+s0] / s1 = get / ret s0")
	wantWanted(t, "b0: / s1 = r0[s0] / s1 = r0[s0] / s1 = get / s1 = get / ret s0")
	wantWanted(t, "b0: / put s1 / put s1 / r0[s0] = s1 / r0[s0] = s1 / r1[s0+s1] = s3 / ret s0")
	// What a store or a put uses is wanted, whoever sees it.
	wantWanted(t, "b0: / s1 = 5 / r0[s0] = s1 / s1 = 6 / r0[s1] = s0 / s1 = 7 / r0[s1+s0] = s2 / ret s0")
	g := graphOf(t, 1, 3, "b0: / s1 = r0[s0] / s2 = get / s2 = get / put s2 / ret s0")
	wantEnd(t, "a trap", impl.Walk(impl.Clean(g), []int{4}, []int{7, 8}, 10), "trap")
	wantEnd(t, "the second number", impl.Walk(impl.Clean(g), []int{3}, []int{7, 8}, 10), "done 3 8")
}

func TestCleanOverBlocks(t *testing.T) {
	// Wanted in the next block, two blocks ahead, by one of two ways, and around a loop.
	wantWanted(t, "b0: / s1 = 5 / go b1 / b1: / ret s1")
	wantWanted(t, "b0: / s1 = 5 / go b1 / b1: / s2 = 6 / put s2 / go b2 / b2: / put s1 / ret s0")
	wantWanted(t, "b0: / s1 = 5 / if s0 b1 b2 / b1: / ret s1 / b2: / ret s0")
	wantWanted(t, "b0: / put s1 / s1 = s1 + s0 / go b0")
	wantWanted(t, "b0: / s1 = s1 + s0 / go b0")
	wantWanted(t, "b0: / s1 = 1 / go b1 / b1: / s2 = s1 - s0 / s1 = s2 / if s1 b1 b2 / b2: / ret s0")
	// Made again in each block that comes next.
	wantClean(t, "b0: / s1 = 5 / go b1 / b1: / s1 = 6 / ret s1", "b0: / go b1 / b1: / s1 = 6 / ret s1")
	wantClean(t, "b0: / s1 = 5 / if s0 b1 b2 / b1: / s1 = get / ret s1 / b2: / ret s0", "b0: / if s0 b1 b2 / b1: / s1 = get / ret s1 / b2: / ret s0")
	wantClean(t, "b0: / s1 = 5 / go b1 / b1: / s2 = 6 / go b2 / b2: / s1 = get / put s1 / ret s0", "b0: / go b1 / b1: / go b2 / b2: / s1 = get / put s1 / ret s0")
	// Live behind the block, but made again in it; and used in it, but not live behind.
	wantClean(t, "b0: / s1 = 5 / s1 = 6 / go b1 / b1: / ret s1", "b0: / s1 = 6 / go b1 / b1: / ret s1")
	wantClean(t, "b0: / s1 = 5 / put s1 / s1 = 6 / go b1 / b1: / ret s0", "b0: / s1 = 5 / put s1 / go b1 / b1: / ret s0")
	// A block that nobody comes to is cleaned, too, and what it uses is live behind its own blocks alone.
	wantClean(t, "b0: / s1 = 5 / ret s0 / b1: / s2 = 3 / s3 = 4 / go b2 / b2: / ret s3", "b0: / ret s0 / b1: / s3 = 4 / go b2 / b2: / ret s3")
	wantClean(t, "b0: / s1 = 5 / go b2 / b1: / put s1 / go b1 / b2: / ret s0", "b0: / go b2 / b1: / put s1 / go b1 / b2: / ret s0")
	// Live is told of the graph as it was: what just a step of another block uses that goes stays, till it is told again.
	const once = "b0: / s1 = 5 / go b1 / b1: / ret s0"
	wantClean(t, "b0: / s1 = 5 / go b1 / b1: / s2 = s1 / ret s0", once)
	wantClean(t, once, "b0: / go b1 / b1: / ret s0")
}

func TestDeadTellsFields(t *testing.T) {
	store := impl.Instr{Op: impl.InStore, A: 2, B: 3, C: 1, N: 1}
	other := impl.Instr{Op: impl.InStore, A: 3, B: 2, C: 4, N: 1}
	sum := impl.Instr{Op: impl.InBin, D: 4, A: 3, B: 2, Text: "+"}
	lost := impl.Instr{Op: impl.InBin, D: 2, A: 3, B: 2, Text: "=="}
	g := impl.Graph{Sizes: []int{7, 16, 1}, Params: 1, Vars: 2, Slots: 5, Blocks: []impl.Block{
		{Code: []impl.Instr{store, sum, other}, Jump: impl.JmIf, A: 3, To: 1, Else: 0},
		{Code: []impl.Instr{lost}, Jump: impl.JmRet, A: 4},
	}}
	want := otherGraph(g)
	want.Blocks[0].Code = []impl.Instr{sum, other}
	if got := impl.DeadStores(g); plain(got) != plain(want) || !impl.SameGraph(got, want) {
		t.Errorf("DeadStores tells %s; want %s", plain(got), plain(want))
	}
	want = otherGraph(g)
	want.Blocks[1].Code = nil
	if got := impl.Clean(g); plain(got) != plain(want) || !impl.SameGraph(got, want) {
		t.Errorf("Clean tells %s; want %s", plain(got), plain(want))
	}
	if got := impl.Live(g); plain(got) != "[[1 2 3 4] []]" {
		t.Errorf("Live tells %v", got)
	}
}

func TestDeadOfPrograms(t *testing.T) {
	for _, c := range []struct {
		body                 string
		stores, left, values int
	}{
		{"", 0, 0, 0},
		{"a[x] = 1; a[x] = 2;", 2, 1, 0},
		{"a[x] = 1; put x; a[x] = 2;", 2, 2, 0},
		{"a[x] = 1; b[y] = a[y]; a[x] = 2;", 3, 3, 0},
		{"a[x] = 1; b[y] = b[0]; a[x] = 2; b[y] = 3;", 4, 2, 0},
		{"ptr p in a = x; p[1] = y; a[x + 1] = 3; p = p + 1; p[0] = 4; return p[0];", 3, 1, 0},
		{"a[x] = 1; a[y] = 2; a[x] = 3; a[y] = 4; put a[0] + a[1];", 4, 2, 0},
		{"a[x] = 1; if y { a[x] = 2; a[x] = 3; } else { } a[x] = 4; return a[0];", 4, 3, 0},
		{"while y < 2 { a[y] = 1; y = y + 1; a[y] = 2; a[y] = 3; } return a[1];", 3, 2, 0},
		{"let z = x + 1; let w = z; put x;", 0, 0, 6},
		{"let z = x; z = 2; return z;", 0, 0, 2},
		{"let z = get; let w = a[x]; put 1;", 0, 0, 2},
		{"let z = 0; while x < 2 { x = x + 1; z = z + x; } return x;", 0, 0, 0},
	} {
		p := parsed(t, body(c.body))
		g := impl.Lower(p)
		if got := impl.Stores(g); got != c.stores || impl.Stores(impl.DeadStores(g)) != c.left {
			t.Errorf("%q: %d stores become %d", c.body, got, impl.Stores(impl.DeadStores(g)))
		}
		if got := len(stepsOf(g)) - len(stepsOf(impl.Clean(g))); got != c.values {
			t.Errorf("%q: %d values go", c.body, got)
		}
		for _, args := range [][]int{{0, 0}, {0, 1}, {1, 2}, {2, 2}, {3, 0}, {-1, 7}} {
			wantSameDead(t, c.body, g, args, []int{5})
			wantMeant(t, c.body, p, args, []int{5})
		}
	}
}

// wantMeant tells that the changed graphs of a program do what its text means; and whether that ends.
func wantMeant(t *testing.T, text string, p impl.Program, args []int, input []int) bool {
	t.Helper()
	mean := impl.Mean(p, args, input, 1000)
	if mean.Code == impl.EndFuel {
		return false
	}
	g := impl.Lower(p)
	for name, changed := range map[string]impl.Graph{
		"DeadStores": impl.DeadStores(g), "Clean": impl.Clean(g), "both": impl.Clean(impl.DeadStores(g)), "the other way": impl.DeadStores(impl.Clean(g)),
	} {
		if got := impl.Walk(changed, args, input, impl.MaxFuel); !impl.SameEnd(got, mean) {
			t.Fatalf("%s with %v / %v: %s ends %+v; its text means %+v", text, args, input, name, got, mean)
		}
	}
	return true
}

// wantToldDead holds what is told of a graph that is GraphOk against what is told a second time; it tells how many stores and how many values go.
func wantToldDead(t *testing.T, name string, g impl.Graph) (int, int) {
	t.Helper()
	d, c := impl.DeadStores(g), impl.Clean(g)
	if want := overlooked(g); plain(d) != plain(want) || !impl.SameGraph(d, want) || !impl.GraphOk(d) {
		t.Fatalf("%s: DeadStores of\n%stells %s; want\n%s", name, graphText(g), plain(d), graphText(want))
	}
	if want := cleaned(g); plain(c) != plain(want) || !impl.SameGraph(c, want) || !impl.GraphOk(c) {
		t.Fatalf("%s: Clean of\n%stells %s; want\n%s", name, graphText(g), plain(c), graphText(want))
	}
	if got, want := impl.Live(g), lookedAhead(g); plain(got) != plain(want) {
		t.Fatalf("%s: Live of\n%stells %v; want %v", name, graphText(g), got, want)
	}
	if impl.Stores(d) > impl.Stores(g) || impl.Loads(d) != impl.Loads(g) || impl.Stores(c) != impl.Stores(g) || impl.Loads(c) != impl.Loads(g) {
		t.Fatalf("%s: of\n%sDeadStores has %d loads and %d stores, Clean %d and %d", name, graphText(g), impl.Loads(d), impl.Stores(d), impl.Loads(c), impl.Stores(c))
	}
	return impl.Stores(g) - impl.Stores(d), len(stepsOf(g)) - len(stepsOf(c))
}

// wantSameDead is promise 8 of a graph that is GraphOk. It tells how many stores and how many values go.
func wantSameDead(t *testing.T, name string, g impl.Graph, args []int, input []int) (int, int) {
	t.Helper()
	stores, values := wantToldDead(t, name, g)
	wantSameWalks(t, name, g, args, input)
	return stores, values
}

// wantSameWalks tells where a graph ends the ends of what is left of it, at each of many fuels.
func wantSameWalks(t *testing.T, name string, g impl.Graph, args []int, input []int) {
	t.Helper()
	changes := map[string]impl.Graph{"DeadStores": impl.DeadStores(g), "Clean": impl.Clean(g)}
	for _, fuel := range []int{0, 1, 2, 3, 5, 8, 13, 40, 100, 1000, impl.MaxFuel} {
		want := impl.Walk(g, args, input, fuel)
		for what, changed := range changes {
			got := impl.Walk(changed, args, input, fuel)
			right := impl.SameEnd(got, want)
			if want.Code == impl.EndFuel {
				// Whoever has less to do comes as far at least.
				right = impl.Prefix(want.Out, got.Out)
			}
			if want.Code == impl.EndTrap && what == "DeadStores" && got.Code == impl.EndFuel {
				// A store that went may have been the one that trapped: the one that stays does so within the same block.
				right = impl.SameEnd(impl.Walk(changed, args, input, min(fuel+impl.MaxCode, impl.MaxFuel)), want)
			}
			if !right {
				t.Fatalf("%s: %s of\n%swith %v / %v and %d of fuel ends %+v; without %+v", name, what, graphText(g), args, input, fuel, got, want)
			}
		}
	}
}

// A catch counts graphs from which something goes, and how much that is, by how they end.
type catch struct{ graphs, gone map[int]int }

func newCatch() catch { return catch{map[int]int{}, map[int]int{}} }

func (c catch) add(code int, gone int) {
	if gone > 0 {
		c.graphs[code]++
		c.gone[code] += gone
	}
}

func (c catch) wantMany(t *testing.T, name string, done int, trap int) {
	t.Helper()
	if c.graphs[impl.EndDone] < done || c.graphs[impl.EndTrap] < trap || c.gone[impl.EndDone] < 2*done || c.gone[impl.EndTrap] < 2*trap {
		t.Errorf("%s: only %v graphs, of which %v go", name, c.graphs, c.gone)
	}
}

func TestGraphsWithoutWhatNobodySeesDoTheSame(t *testing.T) {
	dead, lost := newCatch(), newCatch()
	for kind, make := range []func(seed int64) (impl.Graph, []int, []int){storeGraph, valueGraph, memoryGraph, madeGraph} {
		for seed := range int64(seeds / 3) {
			g, args, input := make(seed)
			stores, values := wantSameDead(t, fmt.Sprint("kind ", kind, " seed ", seed), g, args, input)
			code := impl.Walk(g, args, input, impl.MaxFuel).Code
			dead.add(code, stores)
			lost.add(code, values)
		}
	}
	dead.wantMany(t, "stores", seeds/20, seeds/20)
	lost.wantMany(t, "values", seeds/10, seeds/20)
	// Numbers that are no places, and what no walk is begun with.
	for seed := range int64(seeds / 20) {
		g, _, _ := storeGraph(seed)
		for _, args := range [][]int{{math.MaxInt, math.MinInt}, {-1, 4}, {3, -3}, {0}, nil, {0, 0, 0}} {
			wantSameDead(t, fmt.Sprint("seed ", seed), g, args, []int{math.MinInt, 5, math.MaxInt})
		}
		wantSameDead(t, fmt.Sprint("seed ", seed), g, []int{0, 1}, make([]int, 100+seed%2))
	}
	wantSameDead(t, "each kind", sample(), []int{3}, []int{4})
	shapes(2, func(g impl.Graph) { wantSameDead(t, "a shape", g, nil, nil) })
}

func TestProgramsWithoutWhatNobodySeesDoWhatTheyMean(t *testing.T) {
	dead, lost := newCatch(), newCatch()
	for seed := range int64(seeds / 6) {
		text := memoryProgram(seed)
		p := parsed(t, text)
		g := impl.Lower(p)
		if !impl.GraphOk(g) {
			continue
		}
		stores, values := wantToldDead(t, text, g)
		for _, args := range [][]int{{0, 1}, {2, 2}, {1, int(seed % 5)}} {
			input := []int{int(seed % 3), 1, 0, 2}
			wantSameWalks(t, text, g, args, input)
			if wantMeant(t, text, p, args, input) {
				code := impl.Walk(g, args, input, impl.MaxFuel).Code
				dead.add(code, stores)
				lost.add(code, values)
			}
		}
	}
	dead.wantMany(t, "stores", seeds/100, seeds/50)
	lost.wantMany(t, "values", seeds/20, seeds/20)
	for seed := range int64(seeds / 6) {
		p, args, input := start(seed)
		if g := impl.Lower(p); impl.GraphOk(g) {
			wantSameDead(t, fmt.Sprint("program ", seed), g, args, input)
			wantMeant(t, fmt.Sprint("program ", seed), p, args, input)
		}
	}
}

func TestDeadStoresOfAllBlocksOfFewSteps(t *testing.T) {
	steps := memorySteps(t)
	less := 0
	for i := range 16 * 16 * 16 * 16 {
		code := []impl.Instr{steps[i/4096], steps[i/256%16], steps[i/16%16], steps[i%16]}
		g := impl.Graph{Sizes: []int{4, 2}, Params: 2, Vars: 2, Slots: 3, Blocks: []impl.Block{{Code: code, To: 1}, {}}}
		g.Blocks[1] = showAll(g, 2)
		d := impl.DeadStores(g)
		if want := overlooked(g); !impl.SameGraph(d, want) {
			t.Fatalf("%q becomes %q; want %q", codeText(code), codeText(d.Blocks[0].Code), codeText(want.Blocks[0].Code))
		}
		if impl.SameGraph(d, g) {
			continue
		}
		less++
		for _, args := range [][]int{{0, 0}, {0, 1}, {1, 0}, {1, 1}, {3, 2}, {2, 9}} {
			if got, want := impl.Walk(d, args, []int{2}, 100), impl.Walk(g, args, []int{2}, 100); !impl.SameEnd(got, want) {
				t.Fatalf("%q with %v ends %+v; without %+v", codeText(code), args, got, want)
			}
		}
	}
	if less < 5000 {
		t.Errorf("only %d blocks have stores that are stored over unseen", less)
	}
}

func TestLiveAndCleanOfAllShapesOfFewBlocks(t *testing.T) {
	// Slots 1, 2 and 3 are each made in one block and used in another one, so that each way counts.
	shapes(3, func(g impl.Graph) {
		g.Slots = 5
		for i := range g.Blocks {
			slot := i + 1
			g.Blocks[i].Code = []impl.Instr{{Op: impl.InMove, D: 4, A: slot}, {D: slot%3 + 1, N: i}, {D: 4, N: 7}}
		}
		wantToldDead(t, "a shape", g)
		g.Blocks[1].Code = nil
		g.Blocks[2].Code[2] = impl.Instr{Op: impl.InBin, D: 1, A: 2, B: 1, Text: "-"}
		wantToldDead(t, "another one", g)
	})
}

// everySlot uses, or makes, each slot of a graph of the most slots.
func everySlot(x func(slot int) impl.Instr) []impl.Instr {
	code := []impl.Instr{}
	for slot := range impl.MaxSlots {
		code = append(code, x(slot))
	}
	return code
}

func TestDeadOfMostOfAll(t *testing.T) {
	// All slots are live behind all blocks, whichever way these are told.
	for _, last := range []int{0, impl.MaxBlocks - 1} {
		g := impl.Graph{Sizes: []int{4}, Slots: impl.MaxSlots, Blocks: bare(impl.MaxBlocks)}
		for i := range g.Blocks {
			g.Blocks[i] = impl.Block{Jump: impl.JmIf, To: (i + 1) % impl.MaxBlocks, Else: (i + impl.MaxBlocks - 1) % impl.MaxBlocks}
		}
		g.Blocks[last].Code = everySlot(func(slot int) impl.Instr { return impl.Instr{Op: impl.InPut, A: slot} })
		live := impl.Live(g)
		if len(live) != impl.MaxBlocks {
			t.Fatalf("%d blocks", len(live))
		}
		for _, list := range live {
			if !slices.Equal(list, upTo(impl.MaxSlots)) {
				t.Fatalf("%d slots are live", len(list))
			}
		}
		if c := impl.Clean(g); !impl.SameGraph(c, g) {
			t.Error("a put goes")
		}
		// Only slot 0 is wanted, by the Jumps.
		g.Blocks[last].Code = everySlot(func(slot int) impl.Instr { return impl.Instr{D: slot, N: 7} })
		if c := impl.Clean(g); codeText(c.Blocks[last].Code) != "s0 = 7" {
			t.Errorf("%d steps stay", len(stepsOf(c)))
		}
	}
	// Each step just uses what goes behind it.
	chain := withCode(impl.MaxSlots, everySlot(func(slot int) impl.Instr {
		return impl.Instr{Op: impl.InMove, D: slot, A: max(0, slot-1)}
	}))
	chain.Blocks[0].Jump = impl.JmRet
	if c := impl.Clean(chain); codeText(c.Blocks[0].Code) != "s0 = s0" {
		t.Errorf("%d steps stay", len(stepsOf(c)))
	}
	chain.Blocks[0].A = impl.MaxSlots - 1
	if c := impl.Clean(chain); !impl.SameGraph(c, chain) {
		t.Errorf("only %d steps stay", len(stepsOf(c)))
	}
	// Of one place only the last store stays; of places that may be one all do.
	one := withCode(impl.MaxSlots, everySlot(func(slot int) impl.Instr { return impl.Instr{Op: impl.InStore, A: -1, C: slot} }))
	if d := impl.DeadStores(one); codeText(d.Blocks[0].Code) != "r0[s0] = s999" {
		t.Errorf("%d stores stay", impl.Stores(d))
	}
	near := withCode(impl.MaxSlots, everySlot(func(slot int) impl.Instr { return impl.Instr{Op: impl.InStore, A: -1, B: slot} }))
	if d := impl.DeadStores(near); !impl.SameGraph(d, near) {
		t.Errorf("only %d stores stay", impl.Stores(d))
	}
	near.Blocks[0].Code = slices.Concat(near.Blocks[0].Code[:500], near.Blocks[0].Code[:500])
	if d := impl.DeadStores(near); plain(d.Blocks[0].Code) != plain(near.Blocks[0].Code[500:]) {
		t.Errorf("%d stores stay of two each", impl.Stores(d))
	}
}

func TestDeadAtTheEdgesOfGraphs(t *testing.T) {
	seen := []impl.Instr{{Op: impl.InStore, A: -1}, {Op: impl.InStore, A: -1}, {D: 1}}
	most := impl.Graph{Sizes: []int{1}, Slots: impl.MaxSlots, Blocks: bare(impl.MaxBlocks)}
	for i := range most.Blocks {
		most.Blocks[i].Code = seen
	}
	most.Blocks[0].Code = slices.Concat(seen, gets(impl.MaxCode-3*impl.MaxBlocks))
	wantToldDead(t, "most of all", most)
	wantCounts(t, "DeadStores of most of all", impl.DeadStores(most), 0, impl.MaxBlocks)
	if c := impl.Clean(most); len(stepsOf(c)) != impl.MaxCode-impl.MaxBlocks {
		t.Errorf("%d steps stay", len(stepsOf(c)))
	}
	for name, change := range map[string]func(g *impl.Graph){
		"one step more":  func(g *impl.Graph) { g.Blocks[0].Code = append(g.Blocks[0].Code, gets(1)...) },
		"one slot more":  func(g *impl.Graph) { g.Slots++ },
		"one block more": func(g *impl.Graph) { g.Blocks = append(g.Blocks, impl.Block{}) },
	} {
		g := otherGraph(most)
		change(&g)
		wantWrongDead(t, name, g)
	}
}

// wantWrongDead tells a graph that is not GraphOk as it is, and nothing as live.
func wantWrongDead(t *testing.T, name string, g impl.Graph) {
	t.Helper()
	if impl.GraphOk(g) {
		t.Errorf("%s: is GraphOk", name)
	}
	for what, got := range map[string]impl.Graph{"DeadStores": impl.DeadStores(g), "Clean": impl.Clean(g)} {
		if plain(got) != plain(g) || !impl.SameGraph(got, g) {
			t.Errorf("%s: %s tells %s; want %s", name, what, plain(got), plain(g))
		}
	}
	if got := impl.Live(g); len(got) != 0 {
		t.Errorf("%s: Live tells %v", name, got)
	}
}

func TestDeadOfWrongGraphs(t *testing.T) {
	for name, g := range wrongGraphs() {
		wantWrongDead(t, name, g)
	}
	wantWrongDead(t, "no block", impl.Graph{Sizes: []int{4}, Params: 1, Vars: 1, Slots: 3})
	// A store, and a value, would go, were the graph right.
	const seen = "b0: / s2 = 5 / r0[s0] = s1 / r0[s0] = s1 / ret s0"
	if g := graphOf(t, 0, 5, seen); len(stepsOf(impl.DeadStores(g))) != 2 || len(stepsOf(impl.Clean(g))) != 2 {
		t.Error("nothing goes")
	}
	for name, change := range map[string]func(g *impl.Graph){
		"a slot behind the last":    func(g *impl.Graph) { g.Blocks[0].Code = append(g.Blocks[0].Code, impl.Instr{D: 5}) },
		"a slot below 0":            func(g *impl.Graph) { g.Blocks[0].Code[1].C = -1 },
		"an Op that is none":        func(g *impl.Graph) { g.Blocks[0].Code = append(g.Blocks[0].Code, impl.Instr{Op: 7}) },
		"a Jump that is none":       func(g *impl.Graph) { g.Blocks[0].Jump = 3 },
		"a Jump of no slot":         func(g *impl.Graph) { g.Blocks[0].A = 5 },
		"another block is wrong":    func(g *impl.Graph) { g.Blocks = append(g.Blocks, impl.Block{To: 2}) },
		"a JmGo with a slot":        func(g *impl.Graph) { g.Blocks = append(g.Blocks, impl.Block{A: 1}) },
		"a region that is too long": func(g *impl.Graph) { g.Sizes[0] = impl.MaxSize + 1 },
		"too many parameters":       func(g *impl.Graph) { g.Params = 7 },
	} {
		g := graphOf(t, 0, 5, seen)
		change(&g)
		wantWrongDead(t, name, g)
	}
	for _, p := range []impl.Program{withExps(20, impl.MaxSlots-20), withBlocks(impl.MaxBlocks + 1), withSteps(impl.MaxCode + 1)} {
		wantWrongDead(t, "a long program", impl.Lower(p))
	}
	farGraphs(func(name string, g impl.Graph) { wantWrongDead(t, name, g) })
}

// deadGraphs are right and wrong ones.
func deadGraphs(yield func(g impl.Graph)) {
	someGraphs(func(g impl.Graph, _ []int, _ []int) { yield(g) })
	for seed := range int64(100) {
		g, _, _ := storeGraph(seed)
		yield(g)
		g, _, _ = valueGraph(seed)
		yield(g)
		g.Slots = impl.MaxSlots + 1
		yield(g)
	}
}

func TestDeadWritesIntoNothing(t *testing.T) {
	deadGraphs(func(g impl.Graph) {
		g, tell := roomy(g)
		ahead := tell()
		impl.DeadStores(g)
		impl.Live(g)
		impl.Clean(g)
		if tell() != ahead {
			t.Fatalf("written into: %s", plain(g))
		}
	})
}

// wantOwnMemory tells that no two lists of a changed graph share memory, and that no sign of it is one of the graph's.
func wantOwnMemory(t *testing.T, g impl.Graph, changed impl.Graph) {
	t.Helper()
	want := plain(changed)
	for _, b := range changed.Blocks {
		_ = append(b.Code, impl.Instr{Op: -7})
		for _, x := range b.Code {
			for _, y := range stepsOf(g) {
				if within(x.Text, y.Text) {
					t.Fatalf("a sign shares memory with %s", plain(g))
				}
			}
		}
	}
	_, _ = append(changed.Blocks, impl.Block{Jump: -7}), append(changed.Sizes, -7)
	if plain(changed) != want {
		t.Fatalf("two lists of what is told of %s share memory", plain(g))
	}
}

func TestAnswersOfDeadAreNewMemory(t *testing.T) {
	deadGraphs(func(g impl.Graph) {
		tell := func() string { return plain([]any{g, impl.DeadStores(g), impl.Live(g), impl.Clean(g)}) }
		ahead := tell()
		for _, change := range []func(g impl.Graph) impl.Graph{impl.DeadStores, impl.Clean} {
			changed := change(g)
			wantOwnMemory(t, g, changed)
			spoilGraph(changed)
		}
		live := impl.Live(g)
		for i, list := range live {
			rest := plain(live[i+1:])
			spoil(list)
			if plain(live[i+1:]) != rest {
				t.Fatalf("two lists of Live of %s share memory", plain(g))
			}
		}
		if tell() != ahead {
			t.Fatalf("an answer shares memory with %s", plain(g))
		}
	})
	// Where an argument's lists share memory, those of the answer do not.
	code := append(make([]impl.Instr, 0, 9), blockOf(t, 3, "r0[s0] = s1 / r0[s0] = s1 / s2 = s0 / put s2").Blocks[0].Code...)
	blocks := bare(2)
	blocks[0].Code, blocks[1].Code = code, code
	for _, g := range []impl.Graph{{Sizes: []int{4}, Slots: 3, Blocks: blocks}, {Blocks: blocks}} {
		for _, changed := range []impl.Graph{impl.DeadStores(g), impl.Clean(g)} {
			want := plain(changed.Blocks[1].Code)
			changed.Blocks[0].Code[0].D = 9
			if plain(changed.Blocks[1].Code) != want || code[0].D == 9 {
				t.Error("what lists share is kept")
			}
		}
	}
}

func TestLiveIsToldAlikeEachTime(t *testing.T) {
	for seed := range int64(100) {
		g, _, _ := valueGraph(seed)
		want := plain(impl.Live(g))
		for range 20 {
			if got := plain(impl.Live(g)); got != want {
				t.Fatalf("Live of\n%stells %s and %s", graphText(g), want, got)
			}
		}
	}
}
