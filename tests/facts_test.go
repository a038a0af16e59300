package tests

import (
	"fmt"
	"math"
	"slices"
	"strings"
	"testing"

	"loop.example/g00385/impl"
)

// factsText has a stroke between two blocks.
func factsText(g impl.Graph) string {
	texts := []string{}
	for _, list := range impl.Facts(g) {
		texts = append(texts, impl.FactText(list))
	}
	return strings.Join(texts, " | ")
}

// wantFacts tells a graph of 5 slots, two of them parameters, what holds at its blocks' beginnings.
func wantFacts(t *testing.T, text string, want string) {
	t.Helper()
	g := graphOf(t, 2, 5, text)
	if got := factsText(g); got != want {
		t.Errorf("%q: facts %q; want %q", text, got, want)
	}
	wantToldFacts(t, text, g)
}

// wantVars tells what holds of the variables alone of a program with parameters x and y.
func wantVars(t *testing.T, s string, want string) {
	t.Helper()
	g := impl.Lower(parsed(t, body(s)))
	texts := []string{}
	for _, list := range impl.Facts(g) {
		list = slices.DeleteFunc(list, func(f impl.Fact) bool { return f.Slot >= g.Vars })
		texts = append(texts, impl.FactText(list))
	}
	if got := strings.Join(texts, " | "); got != want {
		t.Errorf("%s: facts %q; want %q", s, got, want)
	}
	wantToldFacts(t, s, g)
	for _, args := range [][]int{{0, 0}, {0, 2}, {1, 0}, {1, 3}, {-4, 1}} {
		wantSameFacts(t, s, g, args, []int{7})
		wantHolds(t, s, g, args, []int{7})
	}
}

func TestFactsOverAnIf(t *testing.T) {
	wantVars(t, "let z = 3; if x { } else { } put z;", "s2=0 | s2=3 | s2=3 | s2=3")
	wantVars(t, "let z = 3; if x { z = 3; } else { } put z;", "s2=0 | s2=3 | s2=3 | s2=3")
	// Both ways the same, and both ways another.
	wantVars(t, "let z = 3; if x { z = 2; } else { z = 2; } put z;", "s2=0 | s2=3 | s2=3 | s2=2")
	wantVars(t, "let z = 3; if x { z = 2; } else { z = 1; } put z;", "s2=0 | s2=3 | s2=3 | -")
	wantVars(t, "let z = 3; if x { z = 2; } else { } put z;", "s2=0 | s2=3 | s2=3 | -")
	wantVars(t, "let z = 3; if x { } else { z = get; } put z;", "s2=0 | s2=3 | s2=3 | -")
	wantVars(t, "let z = 3; if x { z = 2; z = 3; } else { z = 1 + 2; } put z;", "s2=0 | s2=3 | s2=3 | s2=3")
	// Each way is reckoned by what holds there; at the end they are one.
	wantVars(t, "let z = 3; if x { z = z + 1; } else { z = z * 2 - 2; } put z;", "s2=0 | s2=3 | s2=3 | s2=4")
	// What is known of a parameter, too, but not ahead of its being made.
	wantVars(t, "if y { x = 5; } else { x = 5; } put x;", "- | - | - | s0=5")
	// Both ways count, whatever is known of the choice.
	wantVars(t, "let z = 0; if z { z = 1; } else { z = 2; } put z;", "s2=0 | s2=0 | s2=0 | -")
	// A sum that is the same by both ways is not told: neither of its slots is.
	wantVars(t, "let z = 1; let w = 2; if x { z = 2; w = 1; } else { } let v = z + w; if v { } else { }", "s2=0 s3=0 s4=0 | s2=1 s3=2 s4=0 | s2=1 s3=2 s4=0 | s4=0 | - | - | -")
	// An if within an if.
	wantVars(t, "let z = 1; if x { if y { z = 4; } else { z = 4; } } else { z = 4; } put z;", "s2=0 | s2=1 | s2=1 | s2=1 | s2=4 | s2=1 | s2=4")
}

func TestFactsOverAWhile(t *testing.T) {
	// The blocks are: ahead, the head, within, behind.
	wantVars(t, "let z = 3; while x { x = x - 1; } put z;", "s2=0 | s2=3 | s2=3 | s2=3")
	wantVars(t, "let z = 3; while x { x = x - 1; z = 3; } put z;", "s2=0 | s2=3 | s2=3 | s2=3")
	wantVars(t, "let z = 3; while x { x = x - 1; z = 4; } put z;", "s2=0 | - | - | -")
	wantVars(t, "let z = 3; while x { x = x - 1; z = z + 1; } put z;", "s2=0 | - | - | -")
	// Made again of itself: the greatest list has it, since it holds as long as it held.
	wantVars(t, "let z = 3; while x { x = x - 1; z = z + 0; } put z;", "s2=0 | s2=3 | s2=3 | s2=3")
	wantVars(t, "let z = 3; while x { x = x - 1; z = z * z - 6; } put z;", "s2=0 | s2=3 | s2=3 | s2=3")
	wantVars(t, "let z = 3; let w = 3; while x { x = x - 1; z = w; w = z; } put z;", "s2=0 s3=0 | s2=3 s3=3 | s2=3 s3=3 | s2=3 s3=3")
	wantVars(t, "let z = 3; let w = 4; while x { x = x - 1; z = w; w = z; } put z;", "s2=0 s3=0 | s3=4 | s3=4 | s3=4")
	// Lost one round behind the other: z is 4 the second time, w the third time, v the fourth time.
	wantVars(t, "let z = 3; let w = 3; let v = 3; while x { x = x - 1; v = w; w = z; z = 4; } put z;", "s2=0 s3=0 s4=0 | - | - | -")
	// A 0 that none made.
	wantVars(t, "while x { let z = 0; x = x - 1; } put x;", "s2=0 | s2=0 | s2=0 | s2=0")
	wantVars(t, "while x { let z = 1; x = x - 1; } put x;", "s2=0 | - | - | -")
	// A while within a while: the inner one's number is made anew each time.
	wantVars(t, "let z = 1; let w = 2; while x { x = x - 1; z = 1; while y { y = y - 1; z = z + 1; } w = 2; }",
		"s2=0 s3=0 | s3=2 | s3=2 | s3=2 | s3=2 | s3=2 | s3=2")
}

func TestFactsAtTheBeginning(t *testing.T) {
	wantFacts(t, "b0: / ret s0", "s2=0 s3=0 s4=0")
	wantFacts(t, "b0: / s0 = 1 / s3 = 7 / ret s0", "s2=0 s3=0 s4=0")
	for _, c := range []struct {
		params, slots int
		want          string
	}{{0, 0, "-"}, {0, 1, "s0=0"}, {0, 3, "s0=0 s1=0 s2=0"}, {2, 2, "-"}, {2, 3, "s2=0"}, {6, 6, "-"}, {6, 8, "s6=0 s7=0"}} {
		g := impl.Graph{Sizes: []int{1}, Params: c.params, Vars: c.params, Slots: c.slots, Blocks: bare(1)}
		if got := factsText(g); got != c.want {
			t.Errorf("%d parameters of %d slots: facts %q; want %q", c.params, c.slots, got, c.want)
		}
		// Variables are no other than slots behind them.
		if c.slots <= impl.MaxVars {
			g.Vars = c.slots
		}
		if got := factsText(g); got != c.want {
			t.Errorf("%d parameters of %d variables: facts %q; want %q", c.params, c.slots, got, c.want)
		}
	}
}

func TestFactsOfABlock0ThatIsGoneTo(t *testing.T) {
	// By one that leaves a slot 0, and by one that makes it something else.
	wantFacts(t, "b0: / if s0 b1 b2 / b1: / s3 = 0 / go b0 / b2: / ret s0", "s2=0 s3=0 s4=0 | s2=0 s3=0 s4=0 | s2=0 s3=0 s4=0")
	wantFacts(t, "b0: / if s0 b1 b2 / b1: / s3 = 1 / go b0 / b2: / ret s0", "s2=0 s4=0 | s2=0 s4=0 | s2=0 s4=0")
	wantFacts(t, "b0: / if s0 b1 b2 / b1: / s3 = get / go b0 / b2: / s4 = 0 / go b0", "s2=0 s4=0 | s2=0 s4=0 | s2=0 s4=0")
	wantFacts(t, "b0: / if s0 b1 b2 / b1: / s3 = 4 / s3 = s2 / go b0 / b2: / s4 = s3 + s2 / go b0", "s2=0 s3=0 s4=0 | s2=0 s3=0 s4=0 | s2=0 s3=0 s4=0")
	// Only 0 is told there: not what all that go to it have otherwise, and not of a parameter.
	wantFacts(t, "b0: / s3 = 5 / s0 = 0 / s1 = 0 / go b0", "s2=0 s4=0")
	wantFacts(t, "b0: / s3 = 5 / s0 = 5 / go b1 / b1: / go b0", "s2=0 s4=0 | s0=5 s2=0 s3=5 s4=0")
	wantFacts(t, "b0: / s3 = s4 / s4 = s2 / s2 = s1 / go b0", "-")
	// To itself, by both ways, and by one.
	wantFacts(t, "b0: / go b0", "s2=0 s3=0 s4=0")
	wantFacts(t, "b0: / s2 = 1 / s2 = 0 / if s2 b0 b0", "s2=0 s3=0 s4=0")
	wantFacts(t, "b0: / s2 = s2 + s4 / s3 = s3 + s1 / if s2 b0 b1 / b1: / ret s0", "s2=0 s4=0 | s2=0 s4=0")
	// By one that nobody comes to.
	wantFacts(t, "b0: / ret s0 / b1: / s3 = 5 / go b0", "s2=0 s3=0 s4=0 | -")
	wantFacts(t, "b0: / go b2 / b1: / s3 = 5 / go b0 / b2: / s4 = 1 / go b0", "s2=0 s3=0 | - | s2=0 s3=0")
}

func TestFactsOfBlocksThatGoToThemselvesOrByBothWays(t *testing.T) {
	wantFacts(t, "b0: / s2 = 1 / go b1 / b1: / s3 = s2 / go b1", "s2=0 s3=0 s4=0 | s2=1 s4=0")
	wantFacts(t, "b0: / s2 = 1 / go b1 / b1: / s2 = s2 * s2 / if s0 b1 b2 / b2: / ret s0", "s2=0 s3=0 s4=0 | s2=1 s3=0 s4=0 | s2=1 s3=0 s4=0")
	wantFacts(t, "b0: / s2 = 1 / go b1 / b1: / s2 = s2 + s2 / if s0 b1 b2 / b2: / ret s0", "s2=0 s3=0 s4=0 | s3=0 s4=0 | s3=0 s4=0")
	// Behind the last step each time, not as it begins.
	wantFacts(t, "b0: / s2 = 1 / go b1 / b1: / s3 = 4 / if s0 b2 b1 / b2: / ret s0", "s2=0 s3=0 s4=0 | s2=1 s4=0 | s2=1 s3=4 s4=0")
	wantFacts(t, "b0: / s2 = 1 / if s0 b1 b1 / b1: / ret s0", "s2=0 s3=0 s4=0 | s2=1 s3=0 s4=0")
	wantFacts(t, "b0: / if s3 b1 b1 / b1: / s3 = 1 / if s3 b0 b0", "s2=0 s4=0 | s2=0 s4=0")
}

func TestFactsOfBlocksThatOneDoesNotComeTo(t *testing.T) {
	// It has none, and takes none from where it goes to.
	wantFacts(t, "b0: / s2 = 1 / go b2 / b1: / s2 = 9 / s3 = get / go b2 / b2: / ret s2", "s2=0 s3=0 s4=0 | - | s2=1 s3=0 s4=0")
	wantFacts(t, "b0: / s2 = 1 / go b1 / b1: / ret s2 / b2: / s3 = 5 / go b3 / b3: / s4 = 5 / if s4 b1 b2", "s2=0 s3=0 s4=0 | s2=1 s3=0 s4=0 | - | -")
	wantFacts(t, "b0: / ret s0 / b1: / s3 = 5 / go b1", "s2=0 s3=0 s4=0 | -")
	wantFacts(t, "b0: / s2 = 1 / go b1 / b1: / if s0 b1 b3 / b2: / s2 = 2 / go b1 / b3: / ret s0", "s2=0 s3=0 s4=0 | s2=1 s3=0 s4=0 | - | s2=1 s3=0 s4=0")
	// One comes to both ways of a choice, though but one of them is ever gone.
	wantFacts(t, "b0: / s2 = 1 / if s2 b1 b2 / b1: / s3 = 1 / go b3 / b2: / s3 = 2 / go b3 / b3: / ret s0",
		"s2=0 s3=0 s4=0 | s2=1 s3=0 s4=0 | s2=1 s3=0 s4=0 | s2=1 s4=0")
	wantVars(t, "let z = 3; return z; z = 4;", "s2=0 | -")
	wantVars(t, "let z = 3; if x { z = 4; return z; } else { } put z;", "s2=0 | s2=3 | - | s2=3 | s2=3")
}

func TestFactsOfEachStep(t *testing.T) {
	behind := func(steps string, want string) {
		t.Helper()
		wantFacts(t, "b0: / "+steps+" / go b1 / b1: / ret s0", "s2=0 s3=0 s4=0 | "+want)
	}
	behind("s2 = 7", "s2=7 s3=0 s4=0")
	behind("s0 = -7", "s0=-7 s2=0 s3=0 s4=0")
	behind("s2 = "+mostText+" / s3 = "+leastText, "s2="+mostText+" s3="+leastText+" s4=0")
	behind("s0 = s2", "s0=0 s2=0 s3=0 s4=0")
	behind("s2 = s0", "s3=0 s4=0")
	behind("s2 = s2", "s2=0 s3=0 s4=0")
	behind("s2 = 5 / s3 = s2", "s2=5 s3=5 s4=0")
	behind("s2 = 5 / s2 = s0 / s3 = s2", "s4=0")
	behind("s2 = get", "s3=0 s4=0")
	behind("s2 = r0[s3]", "s3=0 s4=0")
	behind("s2 = r0[s4+s3]", "s3=0 s4=0")
	behind("s2 = 3 / r0[s3] = s2 / s4 = r0[s3]", "s2=3 s3=0")
	behind("put s2 / r0[s2] = s3 / r1[s4+s2] = s0", "s2=0 s3=0 s4=0")
	// A load that uses no slot A, of a region that is a number: neither is a slot or a value.
	behind("s2 = 9 / s3 = r1[s4]", "s2=9 s4=0")
	for sign, want := range map[string]int{"+": 19, "-": 5, "*": 84, "&": 4, "==": 0, "<": 0} {
		behind("s2 = 12 / s3 = 7 / s4 = s2 "+sign+" s3", fmt.Sprint("s2=12 s3=7 s4=", want))
		behind("s2 = 12 / s3 = 7 / s2 = s2 "+sign+" s3", fmt.Sprint("s2=", want, " s3=7 s4=0"))
		behind("s3 = s2 "+sign+" s4", fmt.Sprint("s2=0 s3=", around(sign, 0, 0), " s4=0"))
		// Just one is known, or none: not even where the sign leaves no choice.
		behind("s2 = s0 "+sign+" s3", "s3=0 s4=0")
		behind("s2 = s3 "+sign+" s0", "s3=0 s4=0")
		behind("s2 = s0 "+sign+" s0", "s3=0 s4=0")
	}
	behind("s2 = "+mostText+" / s3 = 1 / s4 = s2 + s3", "s2="+mostText+" s3=1 s4="+leastText)
	// Made twice: the last one tells.
	behind("s2 = 7 / s2 = 8", "s2=8 s3=0 s4=0")
	behind("s2 = 7 / s2 = get", "s3=0 s4=0")
	behind("s2 = get / s2 = 7", "s2=7 s3=0 s4=0")
	behind("s2 = 7 / s3 = s2 / s2 = 8", "s2=8 s3=7 s4=0")
	behind("s2 = 7 / s2 = s0 + s3 / s2 = s3", "s2=0 s3=0 s4=0")
	// What holds as a block begins goes on through it, and through the next.
	wantFacts(t, "b0: / s2 = 7 / go b1 / b1: / s3 = s2 + s2 / go b2 / b2: / s2 = s3 - s2 / go b3 / b3: / ret s0",
		"s2=0 s3=0 s4=0 | s2=7 s3=0 s4=0 | s2=7 s3=14 s4=0 | s2=7 s3=14 s4=0")
	// Blocks whose numbers fall along the way.
	wantFacts(t, "b0: / s2 = 7 / go b3 / b1: / ret s0 / b2: / s4 = s3 / go b1 / b3: / s3 = s2 / go b2",
		"s2=0 s3=0 s4=0 | s2=7 s3=7 s4=7 | s2=7 s3=7 s4=0 | s2=7 s3=0 s4=0")
}

func TestFactText(t *testing.T) {
	for want, list := range map[string][]impl.Fact{
		"-":                    {},
		"s0=0":                 {{}},
		"s3=-4":                {{Slot: 3, Val: -4}},
		"s1=2 s3=4":            {{Slot: 1, Val: 2}, {Slot: 3, Val: 4}},
		"s7=1 s7=1 s2=0":       {{Slot: 7, Val: 1}, {Slot: 7, Val: 1}, {Slot: 2, Val: 0}},
		"s-1=5 s-2=-5":         {{Slot: -1, Val: 5}, {Slot: -2, Val: -5}},
		"s999=10 s1000=100":    {{Slot: 999, Val: 10}, {Slot: 1000, Val: 100}},
		"s" + mostText + "=1":  {{Slot: math.MaxInt, Val: 1}},
		"s0=" + leastText:      {{Slot: 0, Val: math.MinInt}},
		"s" + leastText + "=0": {{Slot: math.MinInt, Val: 0}},
	} {
		if got := impl.FactText(list); got != want {
			t.Errorf("FactText of %v: %q; want %q", list, got, want)
		}
		room := append(append(make([]impl.Fact, 0, 9), list...), impl.Fact{Slot: 8, Val: 8})
		if impl.FactText(room[:len(list)]); plain(room) != plain(append(slices.Clone(list), impl.Fact{Slot: 8, Val: 8})) {
			t.Errorf("FactText writes into %v", room)
		}
	}
	if got := impl.FactText(nil); got != "-" {
		t.Errorf("FactText of nil: %q", got)
	}
}

func wantFoldAll(t *testing.T, text string, want string) {
	t.Helper()
	wantChanged(t, "FoldAll", impl.FoldAll, text, want)
	g := graphOf(t, 2, 5, text)
	wantToldFacts(t, text, g)
	wantSameFacts(t, text, g, []int{3, 0}, []int{2})
}

func TestFoldAllOfWhatHoldsAtTheBeginning(t *testing.T) {
	wantFoldAll(t, "b0: / s2 = 5 / go b1 / b1: / s3 = s2 / s4 = s2 * s3 / ret s4", "b0: / s2 = 5 / go b1 / b1: / s3 = 5 / s4 = 25 / ret s4")
	// Slots that are 0 at first, and parameters that are not.
	wantFoldAll(t, "b0: / s2 = s3 / s4 = s3 + s2 / s3 = s0 / s1 = s3 / ret s1", "b0: / s2 = 0 / s4 = 0 / s3 = s0 / s1 = s3 / ret s1")
	wantFoldAll(t, "b0: / s2 = s0 + s3 / s3 = s3 + s1 / ret s2", "b0: / s2 = s0 + s3 / s3 = s3 + s1 / ret s2")
	// A slot that is made otherwise is not known from then on.
	wantFoldAll(t, "b0: / s2 = 5 / go b1 / b1: / s3 = s2 / s2 = get / s4 = s2 / ret s4", "b0: / s2 = 5 / go b1 / b1: / s3 = 5 / s2 = get / s4 = s2 / ret s4")
	wantFoldAll(t, "b0: / s2 = 5 / go b1 / b1: / s2 = r0[s3] / s4 = s2 + s3 / ret s4", "b0: / s2 = 5 / go b1 / b1: / s2 = r0[s3] / s4 = s2 + s3 / ret s4")
	// What is loaded, stored and put out stays told by slots.
	wantFoldAll(t, "b0: / s2 = 1 / go b1 / b1: / r0[s2] = s2 / put s2 / s3 = r0[s2+s4] / ret s2", "b0: / s2 = 1 / go b1 / b1: / r0[s2] = s2 / put s2 / s3 = r0[s2+s4] / ret s2")
	// Over an if, and around a loop.
	wantFoldAll(t, "b0: / if s0 b1 b2 / b1: / s2 = 5 / go b3 / b2: / s2 = 5 / s3 = 1 / go b3 / b3: / s4 = s2 / s4 = s3 / ret s4",
		"b0: / if s0 b1 b2 / b1: / s2 = 5 / go b3 / b2: / s2 = 5 / s3 = 1 / go b3 / b3: / s4 = 5 / s4 = s3 / ret s4")
	wantFoldAll(t, "b0: / s2 = 5 / go b1 / b1: / s3 = s2 + s3 / s2 = s2 * s4 / if s0 b1 b2 / b2: / ret s3",
		"b0: / s2 = 5 / go b1 / b1: / s3 = s2 + s3 / s2 = s2 * s4 / if s0 b1 b2 / b2: / ret s3")
	wantFoldAll(t, "b0: / s2 = 5 / go b1 / b1: / s1 = s1 + s2 / s2 = s2 + s4 / if s0 b1 b2 / b2: / s3 = s2 / ret s3",
		"b0: / s2 = 5 / go b1 / b1: / s1 = s1 + s2 / s2 = 5 / if s0 b1 b2 / b2: / s3 = 5 / ret s3")
}

func TestFoldAllOfJumps(t *testing.T) {
	const rest = " / b1: / ret s1 / b2: / ret s0"
	wantFoldAll(t, "b0: / if s2 b1 b2"+rest, "b0: / go b2"+rest)
	wantFoldAll(t, "b0: / if s0 b1 b2"+rest, "b0: / if s0 b1 b2"+rest)
	wantFoldAll(t, "b0: / s2 = get / if s2 b1 b2"+rest, "b0: / s2 = get / if s2 b1 b2"+rest)
	wantFoldAll(t, "b0: / s2 = s4 + s2 / if s2 b1 b2"+rest, "b0: / s2 = 0 / go b2"+rest)
	wantFoldAll(t, "b0: / s2 = -3 / go b1 / b1: / if s2 b2 b3 / b2: / ret s2 / b3: / ret s0", "b0: / s2 = -3 / go b1 / b1: / go b2 / b2: / ret s2 / b3: / ret s0")
	wantFoldAll(t, "b0: / s0 = 0 / go b1 / b1: / if s0 b2 b3 / b2: / ret s2 / b3: / ret s0", "b0: / s0 = 0 / go b1 / b1: / go b3 / b2: / ret s2 / b3: / ret s0")
	wantFoldAll(t, "b0: / s0 = 0 / go b1 / b1: / s0 = 1 / if s0 b0 b2 / b2: / ret s2", "b0: / s0 = 0 / go b1 / b1: / s0 = 1 / go b0 / b2: / ret s2")
	// A block 0 that is gone to by one that makes the slot something else.
	wantFoldAll(t, "b0: / if s2 b1 b2 / b1: / ret s0 / b2: / s2 = 1 / go b0", "b0: / if s2 b1 b2 / b1: / ret s0 / b2: / s2 = 1 / go b0")
	// The facts are those of the graph as it was: a way that is never gone bars, too.
	wantFoldAll(t, "b0: / if s2 b1 b2 / b1: / s3 = 1 / go b2 / b2: / s4 = s3 / ret s4", "b0: / go b2 / b1: / s3 = 1 / go b2 / b2: / s4 = s3 / ret s4")
}

func TestFoldAllOfBlocksThatOneDoesNotComeTo(t *testing.T) {
	// As Fold has it: not even a 0 is known.
	wantFoldAll(t, "b0: / ret s0 / b1: / s3 = s2 / if s2 b1 b0", "b0: / ret s0 / b1: / s3 = s2 / if s2 b1 b0")
	wantFoldAll(t, "b0: / ret s0 / b1: / s2 = 4 / s3 = s2 / if s3 b2 b0 / b2: / s4 = s2 / ret s4", "b0: / ret s0 / b1: / s2 = 4 / s3 = 4 / go b2 / b2: / s4 = s2 / ret s4")
}

func wantTwice(t *testing.T, steps string, want string) {
	t.Helper()
	text := "b0: / " + steps + " / ret s4"
	wantChanged(t, "Twice", impl.Twice, text, "b0: / "+want+" / ret s4")
	g := graphOf(t, 2, 5, text)
	wantToldFacts(t, text, g)
	for _, args := range [][]int{{0, 0}, {3, -2}, {1, 1}} {
		wantSameFacts(t, text, g, args, []int{2, 3})
	}
}

// wantOnce tells that no step of a block is reckoned twice.
func wantOnce(t *testing.T, steps string) {
	t.Helper()
	wantTwice(t, steps, steps)
}

func TestTwiceOfStepsThatAreAlike(t *testing.T) {
	for _, sign := range []string{"+", "-", "*", "&", "==", "<"} {
		first := "s2 = s0 " + sign + " s1"
		wantTwice(t, first+" / s3 = s0 "+sign+" s1", first+" / s3 = s2")
		// Its own D may be an A or a B of it.
		wantTwice(t, first+" / s0 = s0 "+sign+" s1", first+" / s0 = s2")
		wantTwice(t, first+" / s1 = s0 "+sign+" s1", first+" / s1 = s2")
		wantTwice(t, "s2 = s0 "+sign+" s0 / s3 = s0 "+sign+" s0", "s2 = s0 "+sign+" s0 / s3 = s2")
		// Into the same slot: a move of itself.
		wantTwice(t, first+" / "+first, first+" / s2 = s2")
		// Alike but for Text, A or B, or with A and B in each other's place.
		for _, other := range []string{"+", "-", "*", "&", "==", "<"} {
			if other != sign {
				wantOnce(t, first+" / s3 = s0 "+other+" s1")
			}
		}
		wantOnce(t, first+" / s3 = s4 "+sign+" s1")
		wantOnce(t, first+" / s3 = s0 "+sign+" s4")
		wantOnce(t, first+" / s3 = s1 "+sign+" s0")
		wantOnce(t, first+" / s3 = s0 "+sign+" s0")
	}
	// With others between: those that make no slot, and those that make another one.
	wantTwice(t, "s2 = s0 + s1 / put s2 / r0[s3] = s2 / s3 = 5 / s4 = get / s3 = s4 / s3 = s4 * s4 / s3 = s0 + s1", "s2 = s0 + s1 / put s2 / r0[s3] = s2 / s3 = 5 / s4 = get / s3 = s4 / s3 = s4 * s4 / s3 = s2")
	// Two kinds, in turn.
	wantTwice(t, "s2 = s0 + s1 / s3 = s0 * s1 / s4 = s0 + s1 / s4 = s0 * s1", "s2 = s0 + s1 / s3 = s0 * s1 / s4 = s2 / s4 = s3")
	// Only an InBin is told so, by an InBin.
	wantOnce(t, "s2 = s0 / s3 = s0 / s2 = 5 / s3 = 5 / s2 = r0[s4] / s3 = r0[s4]")
}

func TestTwiceOfThreeThatAreAlike(t *testing.T) {
	// The last such tells, though it has become a move.
	wantTwice(t, "s2 = s0 + s1 / s3 = s0 + s1 / s4 = s0 + s1", "s2 = s0 + s1 / s3 = s2 / s4 = s3")
	wantTwice(t, "s2 = s0 + s1 / s3 = s0 + s1 / s0 = s0 + s1 / s4 = s0 + s1", "s2 = s0 + s1 / s3 = s2 / s0 = s3 / s4 = s0 + s1")
	// The last one's D was made again: the one ahead of it tells.
	wantTwice(t, "s2 = s0 + s1 / s3 = s0 + s1 / s3 = 5 / s4 = s0 + s1", "s2 = s0 + s1 / s3 = s2 / s3 = 5 / s4 = s2")
	wantTwice(t, "s2 = s0 + s1 / s3 = s0 + s1 / s2 = 5 / s4 = s0 + s1", "s2 = s0 + s1 / s3 = s2 / s2 = 5 / s4 = s3")
	wantTwice(t, "s2 = s0 + s1 / s2 = s0 + s1 / s4 = s0 + s1", "s2 = s0 + s1 / s2 = s2 / s4 = s2")
	wantTwice(t, "s2 = s0 + s1 / s3 = s0 + s1 / s2 = get / s3 = get / s4 = s0 + s1", "s2 = s0 + s1 / s3 = s2 / s2 = get / s3 = get / s4 = s0 + s1")
	// A slot that is made again by what it had: the new one counts from then on.
	wantTwice(t, "s2 = s0 + s1 / s2 = 7 / s3 = s0 + s1 / s4 = s0 + s1", "s2 = s0 + s1 / s2 = 7 / s3 = s0 + s1 / s4 = s3")
	wantTwice(t, "s2 = s0 + s1 / s0 = 7 / s3 = s0 + s1 / s4 = s0 + s1", "s2 = s0 + s1 / s0 = 7 / s3 = s0 + s1 / s4 = s3")
}

func TestTwiceOfWhatWasMadeAgainSince(t *testing.T) {
	// Each kind of step that makes an A, a B or the D of the one ahead; a move of itself makes it, too.
	for _, slot := range []string{"s0", "s1", "s2"} {
		for _, anew := range []string{" = 5", " = get", " = s4", " = " + slot, " = r0[s4]", " = r1[s4+s4]", " = s4 * s4", " = " + slot + " - s4", " = s4 < " + slot} {
			wantOnce(t, "s2 = s0 + s1 / "+slot+anew+" / s3 = s0 + s1")
			// Made again ahead of it, that counts not.
			wantTwice(t, slot+anew+" / s2 = s0 + s1 / s3 = s0 + s1", slot+anew+" / s2 = s0 + s1 / s3 = s2")
		}
	}
	// One ahead whose D is one of its own A and B.
	wantOnce(t, "s0 = s0 + s1 / s3 = s0 + s1")
	wantOnce(t, "s1 = s0 + s1 / s3 = s0 + s1")
	wantOnce(t, "s0 = s0 + s0 / s0 = s0 + s0 / s0 = s0 + s0")
	wantOnce(t, "s0 = s0 + s1 / s0 = s0 + s1")
	// As a move it still makes its own A anew.
	wantTwice(t, "s2 = s0 + s1 / s0 = s0 + s1 / s3 = s0 + s1 / s4 = s0 + s1", "s2 = s0 + s1 / s0 = s2 / s3 = s0 + s1 / s4 = s3")
}

func TestTwiceBeginsEachBlockAnew(t *testing.T) {
	for _, text := range []string{
		"b0: / s2 = s0 + s1 / go b1 / b1: / s3 = s0 + s1 / ret s3",
		"b0: / s2 = s0 + s1 / if s0 b0 b1 / b1: / ret s2",
		"b0: / if s0 b1 b2 / b1: / s2 = s0 + s1 / go b2 / b2: / s3 = s0 + s1 / ret s3",
	} {
		wantChanged(t, "Twice", impl.Twice, text, text)
	}
	// A block that nobody comes to is told, too; no Jump becomes another one.
	wantChanged(t, "Twice", impl.Twice, "b0: / s2 = 0 / if s2 b0 b0 / b1: / s2 = s0 + s1 / s3 = s0 + s1 / go b0",
		"b0: / s2 = 0 / if s2 b0 b0 / b1: / s2 = s0 + s1 / s3 = s2 / go b0")
}

func TestBetterOfAFewGraphs(t *testing.T) {
	wantBetter := func(text string, want string) {
		t.Helper()
		wantChanged(t, "Better", impl.Better, text, want)
		g := graphOf(t, 2, 5, text)
		wantToldFacts(t, text, g)
		wantSameFacts(t, text, g, []int{2, 3}, []int{4})
	}
	wantBetter("b0: / ret s0", "b0: / ret s0")
	// A constant told over blocks.
	wantBetter("b0: / s2 = 5 / go b1 / b1: / s3 = s2 + s2 / put s3 / ret s2", "b0: / s2 = 5 / go b1 / b1: / s3 = 10 / put s3 / ret s2")
	// A choice by what is known leaves a block that one does not come to.
	wantBetter("b0: / s2 = 5 / go b1 / b1: / if s2 b2 b3 / b2: / ret s0 / b3: / ret s1", "b0: / go b1 / b1: / go b2 / b2: / ret s0")
	wantBetter("b0: / if s2 b1 b2 / b1: / ret s0 / b2: / ret s1", "b0: / go b1 / b1: / ret s1")
	// What is reckoned twice is told as what it is a copy of.
	wantBetter("b0: / s2 = s0 + s1 / s3 = s0 + s1 / put s2 / ret s3", "b0: / s2 = s0 + s1 / put s2 / ret s2")
	// One place, told so by what holds at the block's beginning.
	wantBetter("b0: / s2 = 1 / go b1 / b1: / s3 = s2 + s2 / s4 = 2 / r0[s3] = s0 / s3 = r0[s4] / ret s3", "b0: / go b1 / b1: / s3 = 2 / r0[s3] = s0 / ret s0")
	// What Trim takes comes too late for what is live: as Optimize has it, once.
	wantBetter("b0: / s2 = 5 / s3 = s0 + s1 / go b1 / b1: / if s2 b2 b3 / b2: / ret s0 / b3: / ret s3", "b0: / go b1 / b1: / go b2 / b2: / ret s0")
}

func TestBetterOfPrograms(t *testing.T) {
	for _, c := range []struct {
		body              string
		own, two, betters int
	}{
		{"", 2, 2, 2},
		{"return x;", 4, 1, 1},
		{"let z = 3; let w = 1; if x { w = 2; } else { w = 2; } while y { y = y - 1; put w; z = z + 0; } put z;", 30, 19, 15},
		{"let z = 3; while x { put z; x = x - 1; } if z - 3 { put 1; } else { put 2; }", 24, 19, 14},
		// A program reckons each expression in slots of its own: Twice is told ahead of Copies, and finds none that are alike.
		{"put x + y; put x + y; return x + y;", 14, 6, 6},
	} {
		p := parsed(t, body(c.body))
		g := impl.Lower(p)
		b := impl.Better(g)
		if got := [3]int{impl.Weight(g), impl.Weight(impl.Optimize(g, 2)), impl.Weight(b)}; got != [3]int{c.own, c.two, c.betters} {
			t.Errorf("%s: weights %v; want %v; better\n%s", c.body, got, [3]int{c.own, c.two, c.betters}, graphText(b))
		}
		wantToldFacts(t, c.body, g)
		for _, args := range [][]int{{0, 0}, {0, 1}, {1, 2}, {3, 4}} {
			wantSameFacts(t, c.body, g, args, []int{5})
			wantMeantBetter(t, c.body, p, args, []int{5})
		}
	}
}

// wantToldFacts holds what is told of a graph that is GraphOk against what is told a second time; it tells how many facts there are behind block 0, and in how many steps and Jumps FoldAll and Twice have something else.
func wantToldFacts(t *testing.T, name string, g impl.Graph) (int, int, int) {
	t.Helper()
	held := heldOf(g)
	facts := impl.Facts(g)
	if want := factLists(held); plain(facts) != plain(want) {
		t.Fatalf("%s: Facts of\n%s%v; want %v", name, graphText(g), facts, want)
	}
	for _, c := range []struct {
		what      string
		got, want impl.Graph
	}{{"FoldAll", impl.FoldAll(g), reckonedWith(g, held)}, {"Twice", impl.Twice(g), onceReckoned(g)}, {"Better", impl.Better(g), bettered(g)}} {
		if plain(c.got) != plain(c.want) || !impl.SameGraph(c.got, c.want) || !impl.GraphOk(c.got) {
			t.Fatalf("%s: %s of\n%stells %s; want\n%s", name, c.what, graphText(g), plain(c.got), graphText(c.want))
		}
	}
	count := 0
	for _, list := range facts[1:] {
		count += len(list)
	}
	return count, differences(g, impl.FoldAll(g)), differences(g, impl.Twice(g))
}

// wantHolds is what promise 11 has of Facts: whenever a block begins in a walk, each slot has its value. It tells how many values were seen.
func wantHolds(t *testing.T, name string, g impl.Graph, args []int, input []int) int {
	t.Helper()
	seen := 0
	for at, facts := range impl.Facts(g) {
		// There may not be room for all of them at once.
		for part := range slices.Chunk(facts, max(1, impl.MaxCode-len(stepsOf(g)))) {
			for i, n := range shownAt(t, g, at, part, args, input) {
				if fact := part[i%len(part)]; n != fact.Val {
					t.Fatalf("%s:\n%swith %v / %v slot %d is %d as block %d begins; the facts are %s", name, graphText(g), args, input, fact.Slot, n, at, impl.FactText(facts))
				}
				seen++
			}
		}
	}
	return seen
}

// shownAt walks a graph that puts out nothing but these slots, each time that one block begins.
func shownAt(t *testing.T, g impl.Graph, at int, facts []impl.Fact, args []int, input []int) []int {
	t.Helper()
	h := otherGraph(g)
	for i, b := range h.Blocks {
		h.Blocks[i].Code = slices.DeleteFunc(b.Code, func(x impl.Instr) bool { return x.Op == impl.InPut })
	}
	show := []impl.Instr{}
	for _, fact := range facts {
		show = append(show, impl.Instr{Op: impl.InPut, A: fact.Slot})
	}
	h.Blocks[at].Code = append(show, h.Blocks[at].Code...)
	if !impl.GraphOk(h) {
		t.Fatalf("no room for %d facts in\n%s", len(facts), graphText(g))
	}
	return impl.Walk(h, args, input, 2000).Out
}

// wantSameFacts is what promise 11 has of FoldAll, Twice and Better: where a graph ends they end the same and put out the same.
func wantSameFacts(t *testing.T, name string, g impl.Graph, args []int, input []int) {
	t.Helper()
	better := impl.Better(g)
	for _, fuel := range []int{0, 1, 2, 3, 5, 8, 13, 40, 100, 1000, 5000} {
		want := impl.Walk(g, args, input, fuel)
		// Each step and each Jump takes what it took.
		for what, changed := range map[string]impl.Graph{"FoldAll": impl.FoldAll(g), "Twice": impl.Twice(g)} {
			if got := impl.Walk(changed, args, input, fuel); !impl.SameEnd(got, want) {
				t.Fatalf("%s: %s of\n%swith %v / %v and %d of fuel ends %+v; without %+v", name, what, graphText(g), args, input, fuel, got, want)
			}
		}
		got := impl.Walk(better, args, input, fuel)
		right := impl.SameEnd(got, want)
		switch {
		case want.Code == impl.EndFuel:
			// Whoever has less to do comes as far at least.
			right = impl.Prefix(want.Out, got.Out)
		case want.Code == impl.EndTrap && got.Code == impl.EndFuel:
			// A store that went may have been the one that trapped: the one that stays does so within the same block.
			right = impl.SameEnd(impl.Walk(better, args, input, fuel+impl.MaxCode), want)
		}
		if !right {
			t.Fatalf("%s: Better of\n%swith %v / %v and %d of fuel ends %+v; without %+v", name, graphText(g), args, input, fuel, got, want)
		}
	}
}

// wantMeantBetter tells that the changed graphs of a program do what its text means; and whether that ends.
func wantMeantBetter(t *testing.T, text string, p impl.Program, args []int, input []int) bool {
	t.Helper()
	mean := impl.Mean(p, args, input, 1000)
	if mean.Code == impl.EndFuel {
		return false
	}
	g := impl.Lower(p)
	for name, changed := range map[string]impl.Graph{
		"FoldAll": impl.FoldAll(g), "Twice": impl.Twice(g), "Better": impl.Better(g), "Better of Better": impl.Better(impl.Better(g)),
		"FoldAll of FoldAll": impl.FoldAll(impl.FoldAll(g)), "FoldAll of Twice": impl.FoldAll(impl.Twice(g)), "Better of level 1": impl.Better(impl.Optimize(g, 1)), "Better of level 2": impl.Better(impl.Optimize(g, 2)),
	} {
		if got := impl.Walk(changed, args, input, impl.MaxFuel); !impl.SameEnd(got, mean) {
			t.Fatalf("%s with %v / %v: %s ends %+v; its text means %+v", text, args, input, name, got, mean)
		}
	}
	return true
}

func TestFactsOfMadeGraphsHold(t *testing.T) {
	t.Parallel()
	folds, twices := newCatch(), newCatch()
	told, seen := 0, 0
	for kind, make := range []func(seed int64) (impl.Graph, []int, []int){factGraph, factGraph, figureGraph, valueGraph, madeGraph, madeGraph} {
		for seed := range int64(seeds / 6) {
			g, args, input := make(seed + int64(kind)*seeds)
			name := fmt.Sprint("kind ", kind, " seed ", seed)
			count, folded, once := wantToldFacts(t, name, g)
			told += count
			code := impl.Walk(g, args, input, 5000).Code
			folds.add(code, folded)
			twices.add(code, once)
			for _, numbers := range [][]int{args, numbersOf(g.Params, func() int { return 0 }), numbersOf(g.Params, func() int { return int(seed%7) - 3 })} {
				seen += wantHolds(t, name, g, numbers, input)
				wantSameFacts(t, name, g, numbers, input)
			}
		}
	}
	folds.wantMany(t, "steps that are known", seeds/10, seeds/30)
	twices.wantMany(t, "steps that are reckoned twice", seeds/30, seeds/500)
	if told < seeds || seen < 10*seeds {
		t.Errorf("only %d facts behind block 0, and %d of them seen", told, seen)
	}
}

func TestFactsOfProgramsHold(t *testing.T) {
	t.Parallel()
	told, seen, folded, once, ended := 0, 0, 0, 0, 0
	for seed := range int64(seeds / 25) {
		for _, text := range []string{factProgram(seed), memoryProgram(seed)} {
			p := parsed(t, text)
			g := impl.Lower(p)
			if !impl.GraphOk(g) {
				continue
			}
			facts, folds, _ := wantToldFacts(t, text, g)
			// Steps that are alike come about where slots are told as what they are copies of.
			_, _, twices := wantToldFacts(t, text, impl.Optimize(g, 1))
			told, folded, once = told+facts, folded+folds, once+twices
			for _, args := range [][]int{{0, 1}, {1, int(seed % 5)}} {
				input := []int{int(seed % 3), 1, 0, 2}
				seen += wantHolds(t, text, g, args, input)
				wantSameFacts(t, text, g, args, input)
				wantSameFacts(t, text, impl.Optimize(g, 1), args, input)
				if wantMeantBetter(t, text, p, args, input) {
					ended++
				}
			}
		}
	}
	for seed := range int64(seeds / 10) {
		p, args, input := start(seed)
		if g := impl.Lower(p); impl.GraphOk(g) {
			wantToldFacts(t, fmt.Sprint("program ", seed), g)
			wantHolds(t, fmt.Sprint("program ", seed), g, args, input)
			wantSameFacts(t, fmt.Sprint("program ", seed), g, args, input)
			wantMeantBetter(t, fmt.Sprint("program ", seed), p, args, input)
		}
	}
	if told < 10*seeds || seen < 10*seeds || folded < seeds/2 || once < seeds/20 || ended < seeds/10 {
		t.Errorf("only %d facts behind block 0, %d of them seen, %d steps that are known, %d that are reckoned twice, %d ends", told, seen, folded, once, ended)
	}
}

func TestFactsOfAllShapesOfFewBlocks(t *testing.T) {
	t.Parallel()
	steps := []string{"", "s2 = 0", "s2 = 1", "s3 = s2", "s2 = s3", "s2 = s0", "s3 = s2 + s3"}
	codes := [][]impl.Instr{}
	for _, line := range steps {
		code := []impl.Instr{}
		if line != "" {
			code = append(code, stepOf(t, line))
		}
		codes = append(codes, code)
	}
	count := 0
	tell := func(g impl.Graph) {
		g.Params, g.Vars, g.Slots = 1, 1, 4
		for i := range len(codes) * len(codes) * len(codes) {
			count++
			if len(g.Blocks) > 2 && count%61 != 0 {
				continue
			}
			for at := range g.Blocks {
				g.Blocks[at].Code = codes[[]int{i % 7, i / 7 % 7, i / 49}[at]]
			}
			want, got := factLists(heldOf(g)), impl.Facts(g)
			if plain(got) != plain(want) {
				t.Fatalf("Facts of\n%s%v; want %v", graphText(g), got, want)
			}
			wantHolds(t, "a shape", g, []int{i%3 - 1}, nil)
		}
	}
	shapes(2, tell)
	shapes(3, tell)
}

func TestTwiceOfAllBlocksOfFewSteps(t *testing.T) {
	t.Parallel()
	steps := []impl.Instr{}
	for _, line := range []string{"s2 = s0 + s1", "s3 = s0 + s1", "s0 = s0 + s1", "s1 = s0 + s1", "s2 = s1 + s0", "s3 = s0 - s1", "s2 = s2", "s0 = s3", "s1 = 2", "s3 = get", "put s2"} {
		steps = append(steps, stepOf(t, line))
	}
	changes := 0
	for i := range 11 * 11 * 11 * 11 {
		code := []impl.Instr{steps[i/1331], steps[i/121%11], steps[i/11%11], steps[i%11]}
		g := impl.Graph{Sizes: []int{4, 2}, Params: 2, Vars: 2, Slots: 4, Blocks: []impl.Block{{Code: code, To: 1}, {}}}
		g.Blocks[1] = showAll(g, 0)
		once := impl.Twice(g)
		if want := onceReckoned(g); !impl.SameGraph(once, want) {
			t.Fatalf("%q becomes %s; want %s", codeText(code), plain(once.Blocks[0]), plain(want.Blocks[0]))
		}
		if impl.SameGraph(once, g) {
			continue
		}
		changes++
		for _, args := range [][]int{{0, 1}, {3, -4}} {
			want := impl.Walk(g, args, []int{2}, 100)
			for _, changed := range []impl.Graph{once, impl.Better(g)} {
				if got := impl.Walk(changed, args, []int{2}, 100); !impl.SameEnd(got, want) {
					t.Fatalf("%q with %v ends %+v as %s; without %+v", codeText(code), args, got, plain(changed.Blocks[0]), want)
				}
			}
		}
	}
	if changes < 2000 {
		t.Errorf("only %d blocks have a step that is reckoned twice", changes)
	}
}

func TestFactsTellFields(t *testing.T) {
	g := impl.Graph{Sizes: []int{7, 16, 1}, Params: 1, Vars: 2, Slots: 5, Blocks: []impl.Block{
		{Code: []impl.Instr{{D: 3, N: 9}, {Op: impl.InBin, D: 2, A: 0, B: 3, Text: "<"}, {Op: impl.InBin, D: 4, A: 0, B: 3, Text: "<"}}, To: 1},
		{Code: []impl.Instr{{Op: impl.InMove, D: 4, A: 3}, {Op: impl.InLoad, D: 1, A: -1, B: 4, N: 2}, {Op: impl.InStore, A: 4, B: 1, C: 4, N: 1}}, Jump: impl.JmIf, A: 3, To: 2, Else: 0},
		{Jump: impl.JmRet, A: 4},
	}}
	facts := impl.Facts(g)
	want := [][]impl.Fact{{}, {{Slot: 1, Val: 0}, {Slot: 3, Val: 9}}, {{Slot: 3, Val: 9}, {Slot: 4, Val: 9}}}
	// Block 1 loads into slot 1 and goes to block 0, and slots 2 to 4 are made in block 0: nothing holds there.
	want[1] = want[1][1:]
	if plain(facts) != plain(want) {
		t.Errorf("Facts tells %v; want %v", facts, want)
	}
	folded := otherGraph(g)
	folded.Blocks[1].Code[0] = impl.Instr{D: 4, N: 9}
	folded.Blocks[1].Jump, folded.Blocks[1].A, folded.Blocks[1].To, folded.Blocks[1].Else = impl.JmGo, 0, 2, 0
	if got := impl.FoldAll(g); plain(got) != plain(folded) || !impl.SameGraph(got, folded) {
		t.Errorf("FoldAll tells %s; want %s", plain(got), plain(folded))
	}
	once := otherGraph(g)
	once.Blocks[0].Code[2] = impl.Instr{Op: impl.InMove, D: 4, A: 2}
	if got := impl.Twice(g); plain(got) != plain(once) || !impl.SameGraph(got, once) {
		t.Errorf("Twice tells %s; want %s", plain(got), plain(once))
	}
}

// A ring is a graph of most slots, steps and blocks, in which each slot but one is moved on by one each time around: what holds is lost one slot a time.
func ring(at func(i int) int) impl.Graph {
	g := impl.Graph{Sizes: []int{1}, Slots: impl.MaxSlots, Blocks: bare(impl.MaxBlocks)}
	code := everySlot(func(slot int) impl.Instr {
		return impl.Instr{Op: impl.InMove, D: impl.MaxSlots - 1 - slot, A: max(0, impl.MaxSlots-2-slot)}
	})
	code[len(code)-1] = impl.Instr{Op: impl.InGet}
	for i := range g.Blocks {
		part := code[len(code)*i/impl.MaxBlocks : len(code)*(i+1)/impl.MaxBlocks]
		g.Blocks[at(i)] = impl.Block{Code: part, To: at((i + 1) % impl.MaxBlocks)}
	}
	return g
}

func TestFactsOfMostOfAll(t *testing.T) {
	forth := func(i int) int { return i }
	back := func(i int) int { return (impl.MaxBlocks - i) % impl.MaxBlocks }
	for _, at := range []func(i int) int{forth, back} {
		g := ring(at)
		for i, list := range impl.Facts(g) {
			if len(list) > 0 {
				t.Fatalf("block %d has %d facts", i, len(list))
			}
		}
		// Where slot 0 is left as it is, all stay 0.
		last := &g.Blocks[at(impl.MaxBlocks-1)]
		last.Code = slices.Clone(last.Code)
		last.Code[len(last.Code)-1] = impl.Instr{Op: impl.InPut}
		for i, list := range impl.Facts(g) {
			if len(list) != impl.MaxSlots || list[999] != (impl.Fact{Slot: 999}) {
				t.Fatalf("block %d has %d facts", i, len(list))
			}
		}
	}
	// One number through most blocks, and a step in each.
	g := impl.Graph{Sizes: []int{1}, Slots: impl.MaxSlots, Blocks: bare(impl.MaxBlocks)}
	for i := range g.Blocks {
		g.Blocks[i] = impl.Block{Code: []impl.Instr{{Op: impl.InBin, D: 999, A: 999, B: 998, Text: "+"}}, To: i + 1}
	}
	g.Blocks[0].Code[0] = impl.Instr{D: 998, N: 3}
	g.Blocks[299].Jump, g.Blocks[299].A, g.Blocks[299].To = impl.JmRet, 999, 0
	if list := impl.Facts(g)[299]; list[998] != (impl.Fact{Slot: 998, Val: 3}) || list[999] != (impl.Fact{Slot: 999, Val: 894}) {
		t.Errorf("the last block has %v", list[998:])
	}
	if b := impl.Better(g); len(stepsOf(b)) != 1 || b.Blocks[299].Code[0] != (impl.Instr{D: 999, N: 897}) {
		t.Errorf("better: %s", plain(b.Blocks[299]))
	}
	// As many steps as can be are alike.
	same := withCode(impl.MaxSlots, everySlot(func(slot int) impl.Instr {
		return impl.Instr{Op: impl.InBin, D: slot, A: 999, B: 999, Text: "*"}
	}))
	once := impl.Twice(same).Blocks[0].Code
	if once[0] != same.Blocks[0].Code[0] || once[1] != (impl.Instr{Op: impl.InMove, D: 1}) || once[999] != (impl.Instr{Op: impl.InMove, D: 999, A: 998}) {
		t.Errorf("twice: %s, %s, %s", plain(once[0]), plain(once[1]), plain(once[999]))
	}
}

func TestFactsAtTheEdgesOfGraphs(t *testing.T) {
	most := ring(func(i int) int { return i })
	most.Blocks[299].To = 299
	if !impl.GraphOk(most) || len(impl.Facts(most)) != impl.MaxBlocks || len(impl.Facts(most)[0]) != impl.MaxSlots {
		t.Fatal("most of all is refused")
	}
	if b := impl.FoldAll(most).Blocks[5].Code[0]; b.Op != impl.InConst {
		t.Errorf("most of all: a step becomes %s", plain(b))
	}
	for name, change := range map[string]func(g *impl.Graph){
		"one step more":      func(g *impl.Graph) { g.Blocks[0].Code = append(g.Blocks[0].Code, gets(1)...) },
		"one slot more":      func(g *impl.Graph) { g.Slots++ },
		"one block more":     func(g *impl.Graph) { g.Blocks = append(g.Blocks, impl.Block{}) },
		"one region more":    func(g *impl.Graph) { g.Sizes = []int{1, 1, 1, 1, 1} },
		"one place more":     func(g *impl.Graph) { g.Sizes = []int{impl.MaxSize + 1} },
		"one parameter more": func(g *impl.Graph) { g.Params, g.Vars = 7, 7 },
		"one variable more":  func(g *impl.Graph) { g.Vars = impl.MaxVars + 1 },
	} {
		g := otherGraph(most)
		change(&g)
		wantNoFacts(t, name, g)
	}
	if got := impl.Better(withCode(0, nil)); !impl.SameGraph(got, withCode(0, nil)) || factsText(withCode(0, nil)) != "-" {
		t.Errorf("a graph without slots becomes %s", plain(got))
	}
}

// factChanges are all changes of a graph that chapter 11 has.
func factChanges() map[string]func(g impl.Graph) impl.Graph {
	return map[string]func(g impl.Graph) impl.Graph{"FoldAll": impl.FoldAll, "Twice": impl.Twice, "Better": impl.Better}
}

// wantNoFacts tells of a graph that is not GraphOk.
func wantNoFacts(t *testing.T, name string, g impl.Graph) {
	t.Helper()
	if impl.GraphOk(g) {
		t.Errorf("%s: is GraphOk", name)
	}
	if got := impl.Facts(g); len(got) != 0 {
		t.Errorf("%s: Facts tells %v", name, got)
	}
	for what, change := range factChanges() {
		if got := change(g); plain(got) != plain(g) || !impl.SameGraph(got, g) {
			t.Errorf("%s: %s tells %s; want %s", name, what, plain(got), plain(g))
		}
	}
}

func TestFactsOfWrongGraphs(t *testing.T) {
	for name, g := range wrongGraphs() {
		wantNoFacts(t, name, g)
	}
	wantNoFacts(t, "no block", impl.Graph{Sizes: []int{4}, Params: 1, Vars: 1, Slots: 3})
	// A step and a Jump would become another one, were the graph right.
	const right = "b0: / s2 = 5 / go b1 / b1: / s3 = s2 / s4 = s0 + s1 / s4 = s0 + s1 / if s3 b0 b2 / b2: / ret s4"
	wantFoldAll(t, right, "b0: / s2 = 5 / go b1 / b1: / s3 = 5 / s4 = s0 + s1 / s4 = s0 + s1 / go b0 / b2: / ret s4")
	for name, change := range map[string]func(g *impl.Graph){
		"a slot behind the last": func(g *impl.Graph) { g.Blocks[2].Code = append(g.Blocks[2].Code, impl.Instr{D: 5}) },
		"a slot below 0":         func(g *impl.Graph) { g.Blocks[1].Code[0].A = -1 },
		"an Op that is none":     func(g *impl.Graph) { g.Blocks[0].Code = append(g.Blocks[0].Code, impl.Instr{Op: 7}) },
		"a Jump that is none":    func(g *impl.Graph) { g.Blocks[2].Jump = 3 },
		"a Jump of no slot":      func(g *impl.Graph) { g.Blocks[2].A = 5 },
		"a Jump to no block":     func(g *impl.Graph) { g.Blocks[1].Else = 3 },
		"another block is wrong": func(g *impl.Graph) { g.Blocks = append(g.Blocks, impl.Block{To: 4}) },
		"a JmGo with a slot":     func(g *impl.Graph) { g.Blocks = append(g.Blocks, impl.Block{A: 1}) },
		"slots below 0":          func(g *impl.Graph) { g.Slots = -5 },
		"far too many slots":     func(g *impl.Graph) { g.Slots = math.MaxInt },
		"parameters below 0":     func(g *impl.Graph) { g.Params = -1 },
	} {
		g := graphOf(t, 2, 5, right)
		change(&g)
		wantNoFacts(t, name, g)
	}
	// Signs that Bin has not, of what is known.
	for _, sign := range []string{"/", "%", "", "=", ">", "<=", "!=", "|", "^", "++", "+ ", "and"} {
		for at := range 2 {
			g := graphOf(t, 2, 5, right)
			g.Blocks[at].Code = append(g.Blocks[at].Code, impl.Instr{Op: impl.InBin, D: 4, A: 2, B: 2, Text: sign}, impl.Instr{Op: impl.InBin, D: 3, A: 2, B: 2, Text: sign})
			wantNoFacts(t, "the sign "+sign, g)
		}
	}
	for _, p := range []impl.Program{withExps(20, impl.MaxSlots-20), withBlocks(impl.MaxBlocks + 1), withSteps(impl.MaxCode + 1)} {
		wantNoFacts(t, "a long program", impl.Lower(p))
	}
	farGraphs(func(name string, g impl.Graph) { wantNoFacts(t, name, g) })
}

// factGraphs are right and wrong ones.
func factGraphs(yield func(g impl.Graph)) {
	someGraphs(func(g impl.Graph, _ []int, _ []int) { yield(g) })
	for seed := range int64(100) {
		g, _, _ := factGraph(seed)
		yield(g)
		g.Slots = impl.MaxSlots + 1
		yield(g)
	}
}

func TestFactsWriteIntoNothing(t *testing.T) {
	factGraphs(func(g impl.Graph) {
		g, tell := roomy(g)
		ahead := tell()
		impl.Facts(g)
		for _, change := range factChanges() {
			change(g)
		}
		if tell() != ahead {
			t.Fatalf("written into: %s", plain(g))
		}
	})
}

func TestAnswersOfFactsAreNewMemory(t *testing.T) {
	t.Parallel()
	factGraphs(func(g impl.Graph) {
		tell := func() string { return plain([]any{g, impl.Facts(g), impl.FoldAll(g), impl.Twice(g), impl.Better(g)}) }
		ahead := tell()
		facts := impl.Facts(g)
		for i, list := range facts {
			rest := plain(facts[i+1:])
			room := list[:cap(list)]
			for j := range room {
				room[j] = impl.Fact{Slot: -77, Val: -77}
			}
			if plain(facts[i+1:]) != rest {
				t.Fatalf("two lists of Facts of %s share memory", plain(g))
			}
		}
		for what, change := range factChanges() {
			changed := change(g)
			wantOwnMemory(t, g, changed)
			for i, b := range changed.Blocks {
				rest := plain(changed.Blocks[i+1:])
				room := b.Code[:cap(b.Code)]
				for j := range room {
					room[j] = impl.Instr{Op: -7}
				}
				if plain(changed.Blocks[i+1:]) != rest {
					t.Fatalf("two lists of %s of %s share memory", what, plain(g))
				}
			}
			spoilGraph(changed)
		}
		if tell() != ahead {
			t.Fatalf("an answer shares memory with %s", plain(g))
		}
	})
	// Where an argument's lists share memory, those of the answer do not.
	code := append(make([]impl.Instr, 0, 9), blockOf(t, 3, "s0 = s1 + s2 / s1 = s0 / put s1").Blocks[0].Code...)
	blocks := bare(2)
	blocks[0].Code, blocks[1].Code = code, code
	blocks[0].To = 1
	for _, g := range []impl.Graph{{Sizes: []int{4}, Slots: 3, Blocks: blocks}, {Blocks: blocks}} {
		for what, change := range factChanges() {
			changed := change(g)
			want := plain(changed.Blocks[1].Code)
			changed.Blocks[0].Code[0].D = 9
			if plain(changed.Blocks[1].Code) != want || code[0].D == 9 {
				t.Errorf("%s keeps what lists share", what)
			}
		}
	}
}

func TestFactsAreToldAlikeEachTime(t *testing.T) {
	for seed := range int64(100) {
		g, _, _ := factGraph(seed)
		tell := func() string { return plain([]any{impl.Facts(g), impl.FoldAll(g), impl.Twice(g), impl.Better(g)}) }
		want := tell()
		for range 10 {
			if got := tell(); got != want {
				t.Fatalf("of\n%sis told %s and %s", graphText(g), want, got)
			}
		}
	}
}
