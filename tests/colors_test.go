package tests

import (
	"fmt"
	"math"
	"slices"
	"testing"

	"loop.example/g00385/impl"
)

// A palette is what a graph has to tell: LiveIn of each block, Meets, Colors with 12, Pressure.
type palette struct {
	live, meets, colors string
	pressure            int
}

func paletteOf(g impl.Graph) palette {
	return palette{rowsText(liveIns(g)), rowsText(impl.Meets(g)), rowsText([][]int{impl.Colors(g, 12)}), impl.Pressure(g)}
}

func liveIns(g impl.Graph) [][]int {
	rows := [][]int{}
	for b := range g.Blocks {
		rows = append(rows, impl.LiveIn(g, b))
	}
	return rows
}

// wantPalette tells a graph of 5 slots, two of them parameters.
func wantPalette(t *testing.T, text string, want palette) {
	t.Helper()
	g := graphOf(t, 2, 5, text)
	if got := paletteOf(g); got != want {
		t.Errorf("%q tells %+v; want %+v", text, got, want)
	}
	wantToldColors(t, text, g)
	for _, args := range [][]int{{0, 0}, {3, 1}, {-2, 5}} {
		wantSameColored(t, text, g, args, []int{4})
		wantSameWhateverIsDead(t, text, g, args, []int{4})
	}
}

func TestColorsOverBlocks(t *testing.T) {
	// Used in the next block, and two blocks ahead.
	wantPalette(t, "b0: / s2 = 1 / go b1 / b1: / put s2 / ret s0", palette{"0|0 2", "2||0||", "0 -1 1 -1 -1", 2})
	wantPalette(t, "b0: / s2 = 1 / go b1 / b1: / s3 = get / go b2 / b2: / put s2 / ret s3", palette{"|2|2 3", "||3|2|", "-1 -1 0 1 -1", 2})
	// Made again ahead of that: nobody wants the first one.
	wantPalette(t, "b0: / s2 = 1 / go b1 / b1: / s2 = get / go b2 / b2: / put s2 / ret s2", palette{"||2", "||||", "-1 -1 0 -1 -1", 1})
	// In a loop, and behind it.
	wantPalette(t, "b0: / s2 = 3 / go b1 / b1: / if s2 b2 b3 / b2: / s2 = s2 - s0 / go b1 / b3: / ret s1",
		palette{"0 1|0 1 2|0 1 2|1", "1 2|0 2|0 1||", "0 1 2 -1 -1", 3})
	// Made anew each time around.
	wantPalette(t, "b0: / go b1 / b1: / s2 = get / if s2 b2 b3 / b2: / put s2 / go b1 / b3: / ret s3", palette{"3|3|2 3|3", "||3|2|", "-1 -1 0 1 -1", 2})
	// On one way of an if alone, on the other one, and on both.
	wantPalette(t, "b0: / s2 = 7 / if s0 b1 b2 / b1: / ret s2 / b2: / s3 = 4 / ret s3", palette{"0|2|", "2||0||", "0 -1 1 0 -1", 2})
	wantPalette(t, "b0: / s2 = 7 / if s0 b1 b2 / b1: / s3 = 4 / ret s3 / b2: / ret s2", palette{"0||2", "2||0||", "0 -1 1 0 -1", 2})
	wantPalette(t, "b0: / if s0 b1 b2 / b1: / s3 = s1 / go b3 / b2: / s3 = s1 / go b3 / b3: / ret s3", palette{"0 1|1|1|3", "1|0|||", "0 1 -1 0 -1", 2})
	wantPalette(t, "b0: / s3 = 1 / if s0 b1 b2 / b1: / s3 = s1 / go b2 / b2: / ret s3", palette{"0 1|1|3", "1 3|0 3||0 1|", "0 1 -1 2 -1", 3})
}

func TestColorsWithinABlock(t *testing.T) {
	// One behind the other: they do not meet, and have one color.
	wantPalette(t, "b0: / s2 = s0 / s3 = s2 / s4 = s3 / ret s4", palette{"0", "||||", "0 -1 0 0 0", 1})
	wantPalette(t, "b0: / s2 = get / put s2 / s3 = get / put s3 / s4 = get / ret s4", palette{"", "||||", "-1 -1 0 0 0", 1})
	// Two, and three, at once.
	wantPalette(t, "b0: / s2 = get / s3 = get / put s2 / ret s3", palette{"", "||3|2|", "-1 -1 0 1 -1", 2})
	wantPalette(t, "b0: / s2 = get / s3 = get / s4 = get / put s2 / put s3 / ret s4", palette{"", "||3 4|2 4|2 3", "-1 -1 0 1 2", 3})
	wantPalette(t, "b0: / s2 = get / s3 = get / put s2 / s4 = get / put s3 / ret s4", palette{"", "||3|2 4|3", "-1 -1 0 1 0", 2})
	// A move of a slot that is wanted still, and of one that is not.
	wantPalette(t, "b0: / s2 = s0 / put s0 / ret s2", palette{"0", "2||0||", "0 -1 1 -1 -1", 2})
	wantPalette(t, "b0: / s2 = s0 / put s2 / ret s2", palette{"0", "||||", "0 -1 0 -1 -1", 1})
	// A slot that is used for the last time by the step that makes another one does not meet that.
	wantPalette(t, "b0: / s2 = s0 + s1 / ret s2", palette{"0 1", "1|0|||", "0 1 0 -1 -1", 2})
	wantPalette(t, "b0: / s2 = r0[s0+s1] / r1[s2] = s1 / ret s1", palette{"0 1", "1|0 2|1||", "0 1 0 -1 -1", 2})
	// The slots of a store are all used, and those of a load but for the one that it makes.
	wantPalette(t, "b0: / r0[s2+s3] = s4 / ret s0", palette{"0 2 3 4", "2 3 4||0 3 4|0 2 4|0 2 3", "0 -1 1 2 3", 4})
	wantPalette(t, "b0: / s4 = r1[s3] / ret s0", palette{"0 3", "3 4|||0|0", "0 -1 -1 1 1", 2})
	// The least color that is free, not the next one.
	wantPalette(t, "b0: / s1 = get / s2 = get / put s2 / s3 = get / put s1 / s4 = get / put s3 / ret s4", palette{"", "|2 3|1|1 4|3", "-1 0 1 1 0", 2})
}

func TestColorsOfASlotThatIsMadeAndNotWanted(t *testing.T) {
	// It meets all that are live behind that step, though none of these meets it later.
	wantPalette(t, "b0: / s2 = get / s3 = get / s4 = 9 / put s2 / ret s3", palette{"", "||3 4|2 4|2 3", "-1 -1 0 1 2", 2})
	wantPalette(t, "b0: / s2 = 1 / ret s0", palette{"0", "2||0||", "0 -1 1 -1 -1", 1})
	// Each kind of step that makes one.
	for _, step := range []string{"s3 = 5", "s3 = get", "s3 = s0", "s3 = s0 + s0", "s3 = r0[s0]", "s3 = r0[s0+s0]"} {
		wantPalette(t, "b0: / "+step+" / ret s0", palette{"0", "3|||0|", "0 -1 -1 1 -1", 1})
	}
	// Where nothing is live it meets none.
	wantPalette(t, "b0: / s2 = 1 / s3 = 2 / ret s3", palette{"", "||||", "-1 -1 0 0 -1", 1})
	wantPalette(t, "b0: / s2 = 1 / go b0", palette{"", "||||", "-1 -1 0 -1 -1", 0})
	// Made twice: the first one is not wanted, and meets what is live there.
	wantPalette(t, "b0: / s3 = 1 / put s0 / s3 = 2 / ret s3", palette{"0", "3|||0|", "0 -1 -1 1 -1", 1})
	wantPalette(t, "b0: / s3 = 1 / s2 = s0 / s3 = 2 / put s2 / ret s3", palette{"0", "3||3|0 2|", "0 -1 0 1 -1", 2})
	// In the last step, with what the next block wants.
	wantPalette(t, "b0: / s2 = 1 / s3 = 1 / go b1 / b1: / ret s2", palette{"|2", "||3|2|", "-1 -1 0 1 -1", 1})
	// Two that are not wanted do not meet each other.
	wantPalette(t, "b0: / s2 = 1 / s3 = 1 / s4 = 1 / ret s0", palette{"0", "2 3 4||0|0|0", "0 -1 1 1 1", 1})
}

func TestColorsOfAStepThatMakesTheSlotThatItUses(t *testing.T) {
	wantPalette(t, "b0: / s0 = s0 + s1 / ret s0", palette{"0 1", "1|0|||", "0 1 -1 -1 -1", 2})
	wantPalette(t, "b0: / s0 = s1 - s0 / ret s1", palette{"0 1", "1|0|||", "0 1 -1 -1 -1", 2})
	for _, step := range []string{"s2 = s2", "s2 = s2 * s2", "s2 = r0[s2]", "s2 = r0[s2+s2]"} {
		wantPalette(t, "b0: / "+step+" / ret s2", palette{"2", "||||", "-1 -1 0 -1 -1", 1})
		// Not wanted behind that, it is still used.
		wantPalette(t, "b0: / s3 = get / "+step+" / ret s3", palette{"2", "||3|2|", "-1 -1 0 1 -1", 2})
		// It does not meet itself, and is live ahead of it.
		wantPalette(t, "b0: / "+step+" / go b0", palette{"2", "||||", "-1 -1 0 -1 -1", 1})
	}
}

func TestColorsOfParameters(t *testing.T) {
	// Two that are live at first meet, though no step makes one.
	wantPalette(t, "b0: / put s0 / ret s1", palette{"0 1", "1|0|||", "0 1 -1 -1 -1", 2})
	wantPalette(t, "b0: / go b1 / b1: / if s0 b2 b3 / b2: / ret s1 / b3: / ret s0", palette{"0 1|0 1|1|0", "1|0|||", "0 1 -1 -1 -1", 2})
	// Two of which one is: the other one is made, or not even named.
	wantPalette(t, "b0: / ret s1", palette{"1", "||||", "-1 0 -1 -1 -1", 1})
	wantPalette(t, "b0: / s0 = s1 / ret s0", palette{"1", "||||", "0 0 -1 -1 -1", 1})
	wantPalette(t, "b0: / put s1 / s0 = 3 / ret s0", palette{"1", "||||", "0 0 -1 -1 -1", 1})
	wantPalette(t, "b0: / s0 = 3 / put s1 / ret s0", palette{"1", "1|0|||", "0 1 -1 -1 -1", 2})
	// None.
	wantPalette(t, "b0: / s0 = 1 / s1 = 2 / ret s1", palette{"", "||||", "0 0 -1 -1 -1", 1})
	wantPalette(t, "b0: / go b0", palette{"", "||||", "-1 -1 -1 -1 -1", 0})
	// A slot that is 0 at first is live like a parameter.
	wantPalette(t, "b0: / put s0 / put s4 / ret s2", palette{"0 2 4", "2 4||0 4||0 2", "0 -1 1 -1 2", 3})
	// Two that are live at the beginning of another block, and of which one is made ahead of it.
	wantPalette(t, "b0: / s1 = s0 / go b1 / b1: / put s0 / ret s1", palette{"0|0 1", "1|0|||", "0 1 -1 -1 -1", 2})
}

func TestColorsOfABlock0ThatIsGoneTo(t *testing.T) {
	// Slot 3 is live at first, since it is wanted the next time.
	wantPalette(t, "b0: / s2 = s0 / s0 = s3 / if s2 b0 b1 / b1: / ret s3", palette{"0 3|3", "2 3||0 3|0 2|", "0 -1 1 2 -1", 3})
	// Slot 4 is made in block 1 and used at the beginning of block 0: it is live at first, too, as 0.
	wantPalette(t, "b0: / put s4 / if s0 b1 b2 / b1: / s4 = 5 / s0 = get / go b0 / b2: / ret s1", palette{"0 1 4|1|1", "1 4|0 4|||0 1", "0 1 -1 -1 2", 3})
	// Made ahead of its use each time: not live at first.
	wantPalette(t, "b0: / s4 = get / put s4 / if s4 b0 b1 / b1: / ret s1", palette{"1|1", "|4|||1", "-1 0 -1 -1 1", 2})
	wantPalette(t, "b0: / if s0 b0 b0", palette{"0", "||||", "0 -1 -1 -1 -1", 1})
	// What is live at first because of the way back alone.
	wantPalette(t, "b0: / if s0 b1 b2 / b1: / put s2 / go b0 / b2: / s3 = s0 / ret s3", palette{"0 2|0 2|0", "2||0||", "0 -1 1 0 -1", 2})
}

func TestColorsOfBlocksThatOneDoesNotComeTo(t *testing.T) {
	// Its slots are used and made, and meet, as those of any other block.
	wantPalette(t, "b0: / ret s0 / b1: / s3 = get / s4 = get / put s3 / ret s4", palette{"0|", "|||4|3", "0 -1 -1 0 1", 2})
	wantPalette(t, "b0: / ret s0 / b1: / s4 = 1 / go b0", palette{"0|0", "4||||0", "0 -1 -1 -1 1", 1})
	// Two that are live at its beginning alone do not meet.
	wantPalette(t, "b0: / ret s0 / b1: / put s3 / ret s4", palette{"0|3 4", "||||", "0 -1 -1 0 0", 2})
	// What it wants is not live behind others.
	wantPalette(t, "b0: / s2 = 1 / go b2 / b1: / put s2 / go b1 / b2: / ret s0", palette{"0|2|0", "2||0||", "0 -1 1 -1 -1", 1})
}

func TestColorsOfPrograms(t *testing.T) {
	for s, want := range map[string]palette{
		"":                                {"", "||", "-1 -1 0", 1},
		"return y;":                       {"1|", "|||", "-1 0 0 0", 1},
		"let z = x + y; return z;":        {"0 1|", "1|0 3||1 4|3|||", "0 1 0 0 1 0 0 0", 2},
		"if x { put y; } else { put x; }": {"0 1|1|0|", "1 2|0 2|0 1|||", "0 1 2 0 0 0", 3},
		"while x { x = x - 1; put y; } return x;": {"0 1|0 1|0 1|0|", "1 2 6|0 2 3 4 5 6|0 1|1 4|1 3|1|0 1||", "0 1 2 0 2 0 2 0 0", 3},
		// A variable that is set and not wanted.
		"let z = 3; return x;": {"0|", "2 3||0|0||", "0 -1 1 1 0 0", 2},
	} {
		g := impl.Lower(parsed(t, body(s)))
		if got := paletteOf(g); got != want {
			t.Errorf("%s:\n%stells %+v; want %+v", s, graphText(g), got, want)
		}
		wantToldColors(t, s, g)
		for _, args := range [][]int{{0, 0}, {2, 5}} {
			wantSameColored(t, s, g, args, []int{4})
			wantSameWhateverIsDead(t, s, g, args, []int{4})
		}
	}
}

// wantColors tells a graph of 5 slots, two of them parameters, its Colors with k.
func wantColors(t *testing.T, text string, k int, want string, spilled string) {
	t.Helper()
	g := graphOf(t, 2, 5, text)
	colors := impl.Colors(g, k)
	if got := rowsText([][]int{colors}); got != want {
		t.Errorf("%q with %d: colors %q; want %q", text, k, got, want)
	}
	if got := rowsText([][]int{impl.Spilled(g, colors)}); got != spilled || len(colors) > 0 && !impl.ColorsOk(g, colors) {
		t.Errorf("%q with %d: spilled %q; want %q", text, k, got, spilled)
	}
}

func TestColorsOfFewColors(t *testing.T) {
	// Slot 1 is neither used nor made; slots 0 and 2 meet, and 3 and 4.
	const text = "b0: / s2 = get / s2 = s2 + s0 / s3 = s2 * s0 / s4 = 7 / put s3 / ret s4"
	wantPalette(t, text, palette{"0", "2||0|4|3", "0 -1 1 0 1", 2})
	for k := 2; k <= 12; k++ {
		wantColors(t, text, k, "0 -1 1 0 1", "")
	}
	wantColors(t, text, 1, "0 -1 -1 0 -1", "2 4")
	wantColors(t, text, 0, "-1 -1 -1 -1 -1", "0 2 3 4")
	for _, k := range []int{-1, 13, -2, 14, 100, math.MinInt, math.MaxInt} {
		wantColors(t, text, k, "", "")
	}
	// A slot behind one that has none may have one again.
	wantColors(t, "b0: / s0 = get / s1 = get / s2 = get / put s0 / put s1 / s3 = get / put s2 / ret s3", 1, "0 -1 -1 0 -1", "1 2")
	wantColors(t, "b0: / s1 = get / s2 = get / s3 = get / put s1 / put s2 / s0 = get / put s3 / s4 = get / put s0 / ret s4", 2, "0 0 1 -1 1", "3")
}

func TestColorsOfSlotsThatAreNotNamed(t *testing.T) {
	for k := range 13 {
		// None at all, and one of five: by a Jump, by a step that uses it, by one that makes it.
		wantColors(t, "b0: / go b0", k, "-1 -1 -1 -1 -1", "")
		for _, text := range []string{"b0: / ret s3", "b0: / if s3 b0 b0", "b0: / put s3 / go b0", "b0: / s3 = 1 / go b0", "b0: / s3 = get / go b0", "b0: / r0[s3+s3] = s3 / go b0"} {
			want, spilled := "-1 -1 -1 0 -1", ""
			if k == 0 {
				want, spilled = "-1 -1 -1 -1 -1", "3"
			}
			wantColors(t, text, k, want, spilled)
		}
	}
	// A JmGo does not use slot 0, and a load or a store without a slot A does not use the one ahead of the first.
	wantColors(t, "b0: / s3 = r0[s4] / r1[s3] = s4 / go b0", 12, "-1 -1 -1 0 1", "")
}

// crowd makes a graph of one block that takes that many slots, all of which are live at once, and as many more of which nobody hears.
func crowd(n int, more int) impl.Graph {
	g := impl.Graph{Sizes: []int{1}, Slots: n + more, Blocks: bare(1)}
	for slot := range n {
		g.Blocks[0].Code = append(g.Blocks[0].Code, impl.Instr{Op: impl.InGet, D: slot})
	}
	for slot := range n {
		g.Blocks[0].Code = append(g.Blocks[0].Code, impl.Instr{Op: impl.InPut, A: slot})
	}
	return g
}

func TestColorsOfAsManySlotsAsColors(t *testing.T) {
	for n := range 16 {
		g := crowd(n, 2)
		if got := impl.Pressure(g); got != n {
			t.Errorf("%d slots at once: pressure %d", n, got)
		}
		for k := range 13 {
			// Those behind the first k have none.
			want := []int{}
			for slot := range g.Slots {
				want = append(want, slot)
				if slot >= min(n, k) {
					want[slot] = -1
				}
			}
			colors := impl.Colors(g, k)
			wantList(t, fmt.Sprint(n, " slots with ", k), colors, want...)
			wantList(t, fmt.Sprint(n, " slots with ", k, ": spilled"), impl.Spilled(g, colors), upTo(n)[min(n, k):]...)
			if !impl.ColorsOk(g, colors) {
				t.Errorf("%d slots with %d: %v are not ColorsOk", n, k, colors)
			}
		}
	}
}

func TestColorsOkOfEachColor(t *testing.T) {
	// Slots 0 and 1 meet, and 2 and 0; 3 is used and meets none; 4 is not named.
	g := graphOf(t, 2, 5, "b0: / s2 = s1 / put s0 / put s2 / s3 = get / ret s3")
	if got := rowsText(impl.Meets(g)); got != "1 2|0|0||" {
		t.Fatalf("meets %q", got)
	}
	for _, c := range []struct {
		colors  []int
		right   bool
		spilled string
	}{
		{[]int{0, 1, 1, 0, -1}, true, ""}, {[]int{0, 1, 2, 3, 4}, true, ""}, {[]int{5, 0, 0, 0, 0}, true, ""},
		// Two that meet have one; two that do not may have one.
		{[]int{0, 0, 1, 0, -1}, false, ""}, {[]int{0, 1, 0, 0, -1}, false, ""}, {[]int{11, 1, 11, 0, -1}, false, ""}, {[]int{3, 4, 4, 3, 3}, true, ""},
		// Two that meet with -1 both, and one of them.
		{[]int{-1, -1, -1, -1, -1}, true, "0 1 2 3"}, {[]int{-1, -1, 0, 0, 0}, true, "0 1"}, {[]int{0, -1, -1, 0, -1}, true, "1 2"}, {[]int{-1, 0, -1, 0, 0}, true, "0 2"},
		// The greatest and the least color, in each place, and one more and one less.
		{[]int{11, 0, 0, 0, 0}, true, ""}, {[]int{12, 0, 0, 0, 0}, false, ""}, {[]int{1, 0, 0, 11, 0}, true, ""}, {[]int{1, 0, 0, 12, 0}, false, ""},
		{[]int{1, 0, 0, 0, 11}, true, ""}, {[]int{1, 0, 0, 0, 12}, false, ""}, {[]int{1, 0, 0, 0, -1}, true, ""}, {[]int{1, 0, 0, 0, -2}, false, ""},
		{[]int{-2, 0, 0, 0, 0}, false, ""}, {[]int{-1, 0, 0, 0, 0}, true, "0"}, {[]int{1, 0, 0, math.MaxInt, 0}, false, ""}, {[]int{1, 0, 0, math.MinInt, 0}, false, ""},
		// One more, one less, none.
		{[]int{0, 1, 1, 0, -1, -1}, false, ""}, {[]int{0, 1, 1, 0}, false, ""}, {[]int{}, false, ""}, {nil, false, ""}, {make([]int, 10), false, ""},
	} {
		if got := impl.ColorsOk(g, c.colors); got != c.right {
			t.Errorf("ColorsOk of %v is %t", c.colors, got)
		}
		if got := rowsText([][]int{impl.Spilled(g, c.colors)}); got != c.spilled {
			t.Errorf("Spilled of %v is %q; want %q", c.colors, got, c.spilled)
		}
	}
	// A graph without slots has no colors, and these are right.
	none := withCode(0, nil)
	if !impl.ColorsOk(none, nil) || !impl.ColorsOk(none, []int{}) || impl.ColorsOk(none, []int{-1}) || len(impl.Colors(none, 12)) != 0 || len(impl.Spilled(none, nil)) != 0 {
		t.Error("a graph without slots")
	}
	if len(impl.Meets(none)) != 0 || impl.Pressure(none) != 0 || len(impl.LiveIn(none, 0)) != 0 {
		t.Error("a graph without slots has something to tell")
	}
}

func TestPressure(t *testing.T) {
	for _, c := range []struct {
		text string
		want int
	}{
		// Without steps.
		{"b0: / go b0", 0}, {"b0: / ret s4", 1}, {"b0: / if s1 b0 b0", 1}, {"b0: / if s1 b1 b2 / b1: / ret s2 / b2: / ret s3", 3},
		{"b0: / if s1 b1 b1 / b1: / if s1 b2 b2 / b2: / ret s1", 1},
		// At the beginning, behind a step in the midst, and behind the last one.
		{"b0: / put s0 / put s1 / put s2 / ret s3", 4}, {"b0: / s2 = s0 / s3 = s0 / s4 = s0 / put s2 / put s3 / ret s4", 3},
		{"b0: / s2 = get / s3 = get / s4 = get / go b1 / b1: / put s2 / put s3 / ret s4", 3}, {"b0: / s2 = get / s3 = get / if s2 b1 b1 / b1: / ret s3", 2},
		// What is made and not wanted is not live; what a step uses for the last time is not live behind it.
		{"b0: / s2 = get / s3 = get / s4 = get / ret s0", 1}, {"b0: / s2 = s0 + s1 / ret s2", 2}, {"b0: / s2 = get / go b0", 0},
		// In a block that one does not come to.
		{"b0: / ret s0 / b1: / put s1 / put s2 / ret s3", 3},
	} {
		g := graphOf(t, 2, 5, c.text)
		if got := impl.Pressure(g); got != c.want {
			t.Errorf("%q: pressure %d; want %d", c.text, got, c.want)
		}
		wantToldColors(t, c.text, g)
	}
}

func TestLiveInOfStepsAndJumps(t *testing.T) {
	for _, c := range []struct{ step, want string }{
		{"s1 = 5", ""}, {"s1 = s2", "2"}, {"s1 = s3 + s2", "2 3"}, {"s1 = s3 * s3", "3"}, {"s1 = get", ""}, {"put s3", "3"},
		{"s1 = r0[s2]", "2"}, {"s1 = r0[s3+s2]", "2 3"}, {"r0[s2] = s1", "1 2"}, {"r0[s4+s2] = s1", "1 2 4"}, {"r0[s2+s2] = s2", "2"},
		{"put s1 / s1 = 5", "1"}, {"s1 = 5 / put s1", ""}, {"s1 = get / put s1 / s1 = s2", "2"}, {"s2 = s1 / s1 = s2", "1"},
	} {
		// As the only block, and as one that is gone to: the last one, which goes to itself alone, uses no slot.
		wantList(t, c.step, impl.LiveIn(graphOf(t, 2, 5, "b0: / "+c.step+" / go b0"), 0), slotsOf(c.want)...)
		g := graphOf(t, 2, 5, "b0: / go b1 / b1: / "+c.step+" / go b2 / b2: / go b2")
		wantList(t, c.step, impl.LiveIn(g, 0), slotsOf(c.want)...)
		wantList(t, c.step, impl.LiveIn(g, 1), slotsOf(c.want)...)
		wantList(t, c.step, impl.LiveIn(g, 2))
	}
	g := graphOf(t, 2, 5, "b0: / s0 = s4 / if s3 b1 b2 / b1: / s2 = 1 / ret s2 / b2: / s1 = get / ret s0")
	for b, want := range []string{"3 4", "", "0"} {
		wantList(t, "LiveIn", impl.LiveIn(g, b), slotsOf(want)...)
	}
	for _, b := range farBlocks(3) {
		wantList(t, fmt.Sprint("LiveIn of block ", b), impl.LiveIn(g, b))
	}
}

// slotsOf reads numbers with a blank between two.
func slotsOf(text string) []int {
	list := []int{}
	for _, word := range impl.Words(text) {
		if n, right := impl.ReadInt(word); right {
			list = append(list, n)
		}
	}
	return list
}

// wantToldColors holds what is told of a graph that is GraphOk against what is told a second time, and is what promise 12 has of colors and of slots that meet. It tells how many pairs meet, and how many slots have no color with 12.
func wantToldColors(t *testing.T, name string, g impl.Graph) (int, int) {
	t.Helper()
	s := surveyOf(g)
	meets := s.meets()
	if got, want := rowsText(liveIns(g)), rowsText(s.liveIns()); got != want {
		t.Fatalf("%s: LiveIn of\n%stells %q; want %q", name, graphText(g), got, want)
	}
	if got := impl.Meets(g); rowsText(got) != rowsText(meets) {
		t.Fatalf("%s: Meets of\n%stells %v; want %v", name, graphText(g), got, meets)
	}
	if got, want := impl.Pressure(g), s.pressure(); got != want {
		t.Fatalf("%s: Pressure of\n%sis %d; want %d", name, graphText(g), got, want)
	}
	spilled := 0
	for k := range 13 {
		colors, want := impl.Colors(g, k), s.colors(meets, k)
		if !slices.Equal(colors, want) {
			t.Fatalf("%s: Colors with %d of\n%stells %v; want %v", name, k, graphText(g), colors, want)
		}
		list := impl.Spilled(g, colors)
		if !impl.ColorsOk(g, colors) || !slices.Equal(list, s.spilled(colors)) {
			t.Fatalf("%s: Colors with %d of\n%sare %v, of which %v are spilled", name, k, graphText(g), colors, list)
		}
		spilled = len(list)
	}
	pairs := wantBothWays(t, name, g)
	return pairs, spilled
}

// wantBothWays is what promise 12 has of slots that meet.
func wantBothWays(t *testing.T, name string, g impl.Graph) int {
	t.Helper()
	meets, pairs := impl.Meets(g), 0
	if len(meets) != g.Slots {
		t.Fatalf("%s: %d slots of %d have a list", name, len(meets), g.Slots)
	}
	for a := range meets {
		for b := range meets {
			one, other := slices.Contains(meets[a], b), slices.Contains(meets[b], a)
			if one != other || one && a == b {
				t.Fatalf("%s: of\n%sslot %d meets %v, slot %d meets %v", name, graphText(g), a, meets[a], b, meets[b])
			}
			if one && a < b {
				pairs++
			}
		}
	}
	return pairs
}

// wantSameColored tells that a graph does the same where all slots of one color are one slot, whatever number of colors there is.
func wantSameColored(t *testing.T, name string, g impl.Graph, args []int, input []int) {
	t.Helper()
	graphs := []impl.Graph{}
	for k := range 13 {
		graphs = append(graphs, inRegisters(g, impl.Colors(g, k)))
	}
	for _, fuel := range []int{1, 7, 40, 400} {
		want := impl.Walk(g, args, input, fuel)
		for k, h := range graphs {
			// The moves of what is live at first, and the Jump behind them.
			more := len(h.Blocks[0].Code) + 1
			if got := impl.Walk(h, args, input, fuel+more); !impl.SameEnd(got, want) {
				t.Fatalf("%s: with %v / %v and %d of fuel\n%sends %+v; with colors %v %+v", name, args, input, fuel, graphText(g), want, impl.Colors(g, k), got)
			}
		}
	}
}

// wantSameWhateverIsDead is what promise 12 has of slots that are not live, at the beginning of block 0, and of each other one. It tells how many parameters are not.
func wantSameWhateverIsDead(t *testing.T, name string, g impl.Graph, args []int, input []int) int {
	t.Helper()
	const fuel = 400
	want := impl.Walk(g, args, input, fuel)
	live, dead := impl.LiveIn(g, 0), 0
	for slot := range g.Params {
		if slices.Contains(live, slot) {
			continue
		}
		dead++
		for _, n := range []int{0, 1, -1, 3, 777, math.MinInt, math.MaxInt} {
			others := slices.Clone(args)
			others[slot] = n
			if got := impl.Walk(g, others, input, fuel); !impl.SameEnd(got, want) {
				t.Fatalf("%s:\n%sends %+v with %v and %+v with %v; live at first is %v", name, graphText(g), want, args, got, others, live)
			}
		}
	}
	for _, n := range []int{1, -7, math.MaxInt} {
		// Each block has a Jump at least, and then at most as many steps more as there are slots.
		got := impl.Walk(spoiled(g, n), args, input, min(impl.MaxFuel, fuel*(1+g.Slots)))
		if want.Code == impl.EndFuel && impl.Prefix(want.Out, got.Out) || impl.SameEnd(got, want) {
			continue
		}
		t.Fatalf("%s:\n%sends %+v with %v / %v; where what is not live is %d at each block's beginning %+v", name, graphText(g), want, args, input, n, got)
	}
	return dead
}

// spoiled makes each slot that is not live at a block's beginning a number, whenever that block begins, as long as there is room for one step more.
func spoiled(g impl.Graph, n int) impl.Graph {
	h := otherGraph(g)
	room := impl.MaxCode - len(stepsOf(g))
	for at, b := range g.Blocks {
		live, code := impl.LiveIn(g, at), []impl.Instr{}
		for slot := range g.Slots {
			if room > 0 && !slices.Contains(live, slot) {
				code = append(code, impl.Instr{D: slot, N: n})
				room--
			}
		}
		h.Blocks[at].Code = append(code, b.Code...)
	}
	return h
}

func TestColorsOfMadeGraphsAreRight(t *testing.T) {
	t.Parallel()
	meet, short, dead, ends := 0, 0, 0, map[int]int{}
	for kind, make := range []func(seed int64) (impl.Graph, []int, []int){colorGraph, colorGraph, valueGraph, factGraph, madeGraph, madeGraph} {
		for seed := range int64(seeds / 12) {
			g, args, input := make(seed + int64(kind)*seeds)
			name := fmt.Sprint("kind ", kind, " seed ", seed)
			pairs, spilled := wantToldColors(t, name, g)
			meet += pairs
			if spilled > 0 {
				short++
			}
			for _, numbers := range [][]int{args, numbersOf(g.Params, func() int { return int(seed%5) - 1 })} {
				wantSameColored(t, name, g, numbers, input)
				dead += wantSameWhateverIsDead(t, name, g, numbers, input)
			}
			ends[impl.Walk(g, args, input, 3000).Code]++
		}
	}
	if meet < 10*seeds || short < seeds/50 || dead < seeds/10 || ends[impl.EndDone] < seeds/10 || ends[impl.EndTrap] < seeds/50 {
		t.Errorf("only %d pairs meet, %d graphs have too many slots for 12 colors, %d parameters are not live; ends %v", meet, short, dead, ends)
	}
}

func TestColorsOfMadeProgramsAreRight(t *testing.T) {
	t.Parallel()
	meet, dead := 0, 0
	for seed := range int64(seeds / 100) {
		for _, text := range []string{factProgram(seed), memoryProgram(seed)} {
			g := impl.Lower(parsed(t, text))
			if !impl.GraphOk(g) {
				continue
			}
			for _, h := range []impl.Graph{g, impl.Optimize(g, 1), impl.Better(g)} {
				pairs, _ := wantToldColors(t, text, h)
				meet += pairs
				for _, args := range [][]int{{0, 1}, {2, int(seed % 5)}} {
					wantSameColored(t, text, h, args, []int{int(seed % 3), 1, 0, 2})
					dead += wantSameWhateverIsDead(t, text, h, args, []int{int(seed % 3), 1, 0, 2})
				}
			}
		}
	}
	for seed := range int64(seeds / 10) {
		p, args, input := start(seed)
		if g := impl.Lower(p); impl.GraphOk(g) {
			name := fmt.Sprint("program ", seed)
			pairs, _ := wantToldColors(t, name, g)
			meet += pairs
			wantSameColored(t, name, g, args, input)
			dead += wantSameWhateverIsDead(t, name, g, args, input)
		}
	}
	if meet < 5*seeds || dead < seeds/20 {
		t.Errorf("only %d pairs meet, and %d parameters are not live", meet, dead)
	}
}

func TestColorsOkOfChangedColors(t *testing.T) {
	right, wrong := 0, 0
	for seed := range int64(seeds / 20) {
		g, _, _ := colorGraph(seed)
		s := surveyOf(g)
		meets := s.meets()
		colors := impl.Colors(g, 12)
		for slot := range colors {
			for _, color := range []int{-2, -1, 0, 1, 2, 11, 12} {
				changed := slices.Clone(colors)
				changed[slot] = color
				want := s.colorsRight(meets, changed)
				if got := impl.ColorsOk(g, changed); got != want {
					t.Fatalf("ColorsOk of %v of\n%sis %t; they meet as %v", changed, graphText(g), got, meets)
				}
				spilled := []int{}
				if want {
					right, spilled = right+1, s.spilled(changed)
				} else {
					wrong++
				}
				wantList(t, "spilled", impl.Spilled(g, changed), spilled...)
			}
		}
	}
	if right < seeds || wrong < seeds {
		t.Errorf("only %d are right, and %d are not", right, wrong)
	}
}

func TestColorsOfAllShapesOfFewBlocks(t *testing.T) {
	t.Parallel()
	codes := [][]impl.Instr{}
	for _, lines := range [][]string{{}, {"s1 = s2"}, {"s2 = get"}, {"put s2"}, {"s2 = s1", "s1 = 4"}, {"s0 = s0 + s1"}} {
		code := []impl.Instr{}
		for _, line := range lines {
			code = append(code, stepOf(t, line))
		}
		codes = append(codes, code)
	}
	count := 0
	tell := func(g impl.Graph) {
		g.Params, g.Vars, g.Slots = 1, 1, 3
		for i := range 216 {
			count++
			// Of three blocks a part, and of two each once.
			if len(g.Blocks) > 2 && count%197 != 0 || len(g.Blocks) == 2 && i >= 36 {
				continue
			}
			for at := range g.Blocks {
				g.Blocks[at].Code = codes[[]int{i % 6, i / 6 % 6, i / 36}[at]]
			}
			wantToldColors(t, "a shape", g)
			wantSameColored(t, "a shape", g, []int{i%3 - 1}, []int{1, 0})
			wantSameWhateverIsDead(t, "a shape", g, []int{i%3 - 1}, []int{1, 0})
		}
	}
	shapes(2, tell)
	shapes(3, tell)
}

func TestColorsOfAllBlocksOfFewSteps(t *testing.T) {
	t.Parallel()
	steps := []impl.Instr{}
	for _, line := range []string{"s0 = s1", "s1 = s0 + s1", "s2 = s0", "s2 = get", "s0 = 5", "put s2", "put s0", "s1 = s1"} {
		steps = append(steps, stepOf(t, line))
	}
	for i := range 8 * 8 * 8 * 3 {
		code := []impl.Instr{steps[i/192], steps[i/24%8], steps[i/3%8]}
		g := impl.Graph{Sizes: []int{1}, Params: 2, Vars: 2, Slots: 3, Blocks: []impl.Block{{Code: code, Jump: impl.JmRet, A: i % 3}}}
		wantToldColors(t, codeText(code), g)
		wantSameColored(t, codeText(code), g, []int{3, 4}, []int{7})
		wantSameWhateverIsDead(t, codeText(code), g, []int{3, 4}, []int{7})
	}
}

func TestColorsTellFields(t *testing.T) {
	// Regions, numbers and blocks are no slots.
	g := impl.Graph{Sizes: []int{7, 16, 1}, Params: 1, Vars: 2, Slots: 7, Blocks: []impl.Block{
		{Code: []impl.Instr{{D: 3, N: 5}, {Op: impl.InLoad, D: 1, A: -1, B: 3, N: 2}, {Op: impl.InStore, A: 0, B: 1, C: 3, N: 1}}, Jump: impl.JmIf, A: 3, To: 1, Else: 1},
		{Code: []impl.Instr{{Op: impl.InBin, D: 6, A: 1, B: 3, Text: "<"}}, Jump: impl.JmRet, A: 6},
	}}
	want := palette{"0|1 3", "1 3|0 3||0 1|||", "0 1 -1 2 -1 -1 0", 3}
	if got := paletteOf(g); got != want {
		t.Errorf("tells %+v; want %+v", got, want)
	}
}

func TestColorsOfMostOfAll(t *testing.T) {
	// All slots are put out: each meets each other one at first.
	g := impl.Graph{Sizes: []int{1}, Slots: impl.MaxSlots, Blocks: bare(impl.MaxBlocks)}
	for i := range g.Blocks {
		g.Blocks[i].To = (i + 1) % impl.MaxBlocks
	}
	g.Blocks[impl.MaxBlocks-1].Code = everySlot(func(slot int) impl.Instr { return impl.Instr{Op: impl.InPut, A: slot} })
	first := append(upTo(12), slices.Repeat([]int{-1}, impl.MaxSlots-12)...)
	wantMost := func(name string, pressure int) {
		t.Helper()
		meets := impl.Meets(g)
		for slot, list := range meets {
			if len(list) != impl.MaxSlots-1 || slices.Contains(list, slot) || !slices.IsSorted(list) {
				t.Fatalf("%s: slot %d meets %d", name, slot, len(list))
			}
		}
		colors := impl.Colors(g, 12)
		wantList(t, name, colors, first...)
		wantList(t, name, impl.Spilled(g, colors), upTo(impl.MaxSlots)[12:]...)
		if len(meets) != impl.MaxSlots || !impl.ColorsOk(g, colors) || impl.Pressure(g) != pressure {
			t.Errorf("%s: %d slots, pressure %d", name, len(meets), impl.Pressure(g))
		}
	}
	wantMost("put out", impl.MaxSlots)
	for _, b := range []int{0, 1, impl.MaxBlocks - 1} {
		wantList(t, "LiveIn", impl.LiveIn(g, b), upTo(impl.MaxSlots)...)
	}
	wantList(t, "LiveIn behind the last block", impl.LiveIn(g, impl.MaxBlocks))
	// Each is made of itself, while all others are live.
	g.Blocks[impl.MaxBlocks-1].Code = everySlot(func(slot int) impl.Instr { return impl.Instr{Op: impl.InMove, D: slot, A: slot} })
	wantMost("moved", impl.MaxSlots)
	// One behind the other: none meets another one.
	g.Blocks[impl.MaxBlocks-1].Code = everySlot(func(slot int) impl.Instr { return impl.Instr{Op: impl.InMove, D: slot, A: max(0, slot-1)} })
	g.Blocks[impl.MaxBlocks-1].Code[0] = impl.Instr{Op: impl.InGet}
	if meets := impl.Meets(g); rowsText(meets) != rowsText(make([][]int, impl.MaxSlots)) || impl.Pressure(g) != 1 {
		t.Errorf("a row: pressure %d", impl.Pressure(g))
	}
	wantList(t, "a row", impl.Colors(g, 1), make([]int, impl.MaxSlots)...)
}

func TestColorsAtTheEdgesOfGraphs(t *testing.T) {
	most := impl.Graph{Sizes: []int{1}, Slots: impl.MaxSlots, Blocks: bare(impl.MaxBlocks)}
	most.Blocks[0] = impl.Block{Code: gets(impl.MaxCode), Jump: impl.JmRet, A: impl.MaxSlots - 1}
	if !impl.GraphOk(most) || len(impl.Meets(most)) != impl.MaxSlots || impl.Pressure(most) != 1 || len(impl.Colors(most, 12)) != impl.MaxSlots {
		t.Fatal("most of all is refused")
	}
	wantList(t, "LiveIn", impl.LiveIn(most, 299), impl.MaxSlots-1)
	wantList(t, "slot 0 meets", impl.Meets(most)[0], impl.MaxSlots-1)
	for name, change := range map[string]func(g *impl.Graph){
		"one step more":      func(g *impl.Graph) { g.Blocks[0].Code = gets(impl.MaxCode + 1) },
		"one slot more":      func(g *impl.Graph) { g.Slots++ },
		"one block more":     func(g *impl.Graph) { g.Blocks = append(g.Blocks, impl.Block{}) },
		"one region more":    func(g *impl.Graph) { g.Sizes = []int{1, 1, 1, 1, 1} },
		"one place more":     func(g *impl.Graph) { g.Sizes = []int{impl.MaxSize + 1} },
		"one parameter more": func(g *impl.Graph) { g.Params, g.Vars = 7, 7 },
		"one variable more":  func(g *impl.Graph) { g.Vars = impl.MaxVars + 1 },
	} {
		g := otherGraph(most)
		change(&g)
		wantNoColors(t, name, g)
	}
}

// wantNoColors tells of a graph that is not GraphOk.
func wantNoColors(t *testing.T, name string, g impl.Graph) {
	t.Helper()
	if impl.GraphOk(g) {
		t.Errorf("%s: is GraphOk", name)
	}
	for _, b := range append(upTo(4), farBlocks(len(g.Blocks))...) {
		wantList(t, name+": LiveIn", impl.LiveIn(g, b))
	}
	if got := impl.Meets(g); len(got) != 0 || impl.Pressure(g) != -1 {
		t.Errorf("%s: Meets tells %v, pressure %d", name, got, impl.Pressure(g))
	}
	for k := -1; k <= 13; k++ {
		wantList(t, name+": Colors", impl.Colors(g, k))
	}
	// Colors that would be right of any graph of so many slots.
	for _, n := range []int{0, 1, 5, max(0, min(g.Slots, impl.MaxSlots+1))} {
		colors := slices.Repeat([]int{-1}, n)
		wantList(t, name+": Spilled", impl.Spilled(g, colors))
		if impl.ColorsOk(g, colors) {
			t.Errorf("%s: %d colors are ColorsOk", name, n)
		}
	}
}

func TestColorsOfWrongGraphs(t *testing.T) {
	for name, g := range wrongGraphs() {
		wantNoColors(t, name, g)
	}
	wantNoColors(t, "no block", impl.Graph{Sizes: []int{4}, Params: 1, Vars: 1, Slots: 3})
	for _, p := range []impl.Program{withExps(20, impl.MaxSlots-20), withBlocks(impl.MaxBlocks + 1), withSteps(impl.MaxCode + 1)} {
		wantNoColors(t, "a long program", impl.Lower(p))
	}
	// Slots would meet, were the graph right.
	const right = "b0: / s2 = s0 + s1 / put s0 / go b1 / b1: / put s1 / ret s2"
	wantPalette(t, right, palette{"0 1|1 2", "1 2|0 2|0 1||", "0 1 2 -1 -1", 3})
	for name, change := range map[string]func(g *impl.Graph){
		"a slot behind the last": func(g *impl.Graph) { g.Blocks[1].Code = append(g.Blocks[1].Code, impl.Instr{D: 5}) },
		"a slot below 0":         func(g *impl.Graph) { g.Blocks[0].Code[1].A = -1 },
		"a slot made below 0":    func(g *impl.Graph) { g.Blocks[0].Code[0].D = -1 },
		"an Op that is none":     func(g *impl.Graph) { g.Blocks[0].Code = append(g.Blocks[0].Code, impl.Instr{Op: 7}) },
		"a Jump that is none":    func(g *impl.Graph) { g.Blocks[1].Jump = 3 },
		"a Jump of no slot":      func(g *impl.Graph) { g.Blocks[1].A = 5 },
		"a Jump to no block":     func(g *impl.Graph) { g.Blocks[0].To = 2 },
		"another block is wrong": func(g *impl.Graph) { g.Blocks = append(g.Blocks, impl.Block{To: 3}) },
		"a JmGo with a slot":     func(g *impl.Graph) { g.Blocks[0].A = 1 },
		"slots below 0":          func(g *impl.Graph) { g.Slots = -5 },
		"far too many slots":     func(g *impl.Graph) { g.Slots = math.MaxInt },
		"a sign that is none":    func(g *impl.Graph) { g.Blocks[0].Code[0].Text = "/" },
	} {
		g := graphOf(t, 2, 5, right)
		change(&g)
		wantNoColors(t, name, g)
	}
	farGraphs(func(name string, g impl.Graph) { wantNoColors(t, name, g) })
}

// colorGraphs are right and wrong ones.
func colorGraphs(yield func(g impl.Graph)) {
	someGraphs(func(g impl.Graph, _ []int, _ []int) { yield(g) })
	for seed := range int64(100) {
		g, _, _ := colorGraph(seed)
		yield(g)
		g.Slots = impl.MaxSlots + 1
		yield(g)
	}
}

func TestColorsWriteIntoNothing(t *testing.T) {
	colorGraphs(func(g impl.Graph) {
		g, tell := roomy(g)
		right := impl.Colors(g, 12)
		for _, colors := range [][]int{right, append(slices.Clone(right), 3), {0, 0, 0}, {}} {
			n := len(colors)
			colors = append(append(make([]int, 0, n+9), colors...), 5, 6, 7)[:n]
			all := func() string { return tell() + plain(colors[:n+9]) }
			ahead := all()
			paletteOf(g)
			impl.ColorsOk(g, colors)
			impl.Spilled(g, colors)
			if all() != ahead {
				t.Fatalf("written into: %s or %v", plain(g), colors)
			}
		}
	})
}

func TestAnswersOfColorsAreNewMemory(t *testing.T) {
	colorGraphs(func(g impl.Graph) {
		colors, none := impl.Colors(g, 3), slices.Repeat([]int{-1}, max(0, min(g.Slots, 2000)))
		tell := func() string { return plain([]any{g, paletteOf(g), colors, impl.Spilled(g, colors), none}) }
		ahead := tell()
		spoil(impl.Colors(g, 3))
		spoil(impl.Spilled(g, colors))
		spoil(impl.Spilled(g, none))
		for b := range g.Blocks {
			spoil(impl.LiveIn(g, b))
		}
		meets := impl.Meets(g)
		for i, list := range meets {
			rest := plain(meets[i+1:])
			spoil(list[:cap(list)])
			if plain(meets[i+1:]) != rest {
				t.Fatalf("two lists of Meets of %s share memory", plain(g))
			}
		}
		if tell() != ahead {
			t.Fatalf("an answer shares memory with %s", plain(g))
		}
	})
}

func TestColorsAreToldAlikeEachTime(t *testing.T) {
	for seed := range int64(100) {
		g, _, _ := colorGraph(seed)
		want := paletteOf(g)
		for range 10 {
			if got := paletteOf(g); got != want {
				t.Fatalf("of\n%sis told %+v and %+v", graphText(g), want, got)
			}
		}
	}
}
