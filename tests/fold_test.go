package tests

import (
	"fmt"
	"math"
	"slices"
	"strings"
	"testing"

	"loop.example/g00385/impl"
)

// wantChanged tells a graph of 5 slots, two of them parameters, what it becomes.
func wantChanged(t *testing.T, what string, change func(g impl.Graph) impl.Graph, text string, want string) {
	t.Helper()
	g, w := graphOf(t, 2, 5, text), graphOf(t, 2, 5, want)
	if got := change(g); plain(got) != plain(w) || !impl.SameGraph(got, w) {
		t.Errorf("%s: %q becomes %s; want %q", what, text, plain(got), want)
	}
}

// wantFold tells the steps of a block what is reckoned of them.
func wantFold(t *testing.T, steps string, want string) {
	t.Helper()
	wantChanged(t, "Fold", impl.Fold, "b0: / "+steps+" / ret s4", "b0: / "+want+" / ret s4")
}

// wantUnknown tells that no step of a block becomes another one.
func wantUnknown(t *testing.T, steps string) {
	t.Helper()
	wantFold(t, steps, steps)
}

func TestFoldOfMoves(t *testing.T) {
	wantUnknown(t, "s1 = 5")
	wantUnknown(t, "s1 = s0")
	wantUnknown(t, "s1 = s1")
	wantUnknown(t, "s1 = 5 / s2 = s0 / s3 = s2")
	wantFold(t, "s1 = 5 / s2 = s1", "s1 = 5 / s2 = 5")
	wantFold(t, "s1 = 0 / s2 = s1", "s1 = 0 / s2 = 0")
	wantFold(t, "s1 = -7 / s1 = s1", "s1 = -7 / s1 = -7")
	wantFold(t, "s1 = 5 / s2 = s1 / s3 = s2 / s0 = s3 / s4 = s0", "s1 = 5 / s2 = 5 / s3 = 5 / s0 = 5 / s4 = 5")
	wantFold(t, "s1 = 5 / s2 = 6 / s3 = s1 / s1 = s2 / s2 = s3", "s1 = 5 / s2 = 6 / s3 = 5 / s1 = 6 / s2 = 5")
	// Made anew as another number.
	wantFold(t, "s1 = 5 / s1 = 6 / s2 = s1", "s1 = 5 / s1 = 6 / s2 = 6")
	wantFold(t, "s1 = 5 / s2 = s1 / s1 = 6 / s3 = s2 / s4 = s1", "s1 = 5 / s2 = 5 / s1 = 6 / s3 = 5 / s4 = 6")
}

func TestFoldOfEachSign(t *testing.T) {
	for _, c := range []struct {
		sign string
		want int
	}{{"+", 19}, {"-", 5}, {"*", 84}, {"&", 4}, {"==", 0}, {"<", 0}} {
		wantFold(t, "s1 = 12 / s2 = 7 / s3 = s1 "+c.sign+" s2", fmt.Sprint("s1 = 12 / s2 = 7 / s3 = ", c.want))
		wantFold(t, "s1 = 7 / s2 = 12 / s3 = s1 "+c.sign+" s2", fmt.Sprint("s1 = 7 / s2 = 12 / s3 = ", around(c.sign, 7, 12)))
		wantFold(t, "s1 = -7 / s3 = s1 "+c.sign+" s1", fmt.Sprint("s1 = -7 / s3 = ", around(c.sign, -7, -7)))
		// Just one is known, or none: not even where the sign leaves no choice.
		wantUnknown(t, "s1 = 0 / s3 = s1 "+c.sign+" s2")
		wantUnknown(t, "s2 = 0 / s3 = s1 "+c.sign+" s2")
		wantUnknown(t, "s0 = 1 / s3 = s1 "+c.sign+" s2")
		wantUnknown(t, "s3 = s1 "+c.sign+" s1")
		// What is reckoned is known from then on.
		wantFold(t, "s1 = 12 / s2 = 7 / s3 = s1 "+c.sign+" s2 / s0 = s3", fmt.Sprintf("s1 = 12 / s2 = 7 / s3 = %d / s0 = %[1]d", c.want))
		// A step that uses the slot that it makes uses what was there ahead of it.
		wantFold(t, "s1 = 12 / s2 = 7 / s1 = s1 "+c.sign+" s2 / s0 = s1", fmt.Sprintf("s1 = 12 / s2 = 7 / s1 = %d / s0 = %[1]d", c.want))
		wantFold(t, "s1 = 12 / s2 = 7 / s2 = s1 "+c.sign+" s2 / s0 = s2", fmt.Sprintf("s1 = 12 / s2 = 7 / s2 = %d / s0 = %[1]d", c.want))
		wantUnknown(t, "s1 = 12 / s1 = s1 "+c.sign+" s2 / s0 = s1")
	}
	wantFold(t, "s1 = 3 / s1 = s1 + s1 / s1 = s1 * s1 / s2 = s1 - s1", "s1 = 3 / s1 = 6 / s1 = 36 / s2 = 0")
	wantFold(t, "s1 = 5 / s2 = 5 / s3 = s1 == s2 / s3 = s3 < s2", "s1 = 5 / s2 = 5 / s3 = 1 / s3 = 1")
}

func TestFoldAround64Bits(t *testing.T) {
	for _, c := range []struct{ sign, a, b, want string }{
		{"+", mostText, "1", leastText}, {"+", leastText, "-1", mostText}, {"+", leastText, leastText, "0"}, {"+", mostText, mostText, "-2"},
		{"-", leastText, "1", mostText}, {"-", mostText, "-1", leastText}, {"-", "0", leastText, leastText}, {"-", leastText, mostText, "1"},
		{"*", mostText, "2", "-2"}, {"*", leastText, "-1", leastText}, {"*", leastText, leastText, "0"}, {"*", mostText, mostText, "1"},
		{"*", "4294967296", "4294967296", "0"}, {"*", "3037000500", "3037000500", "-9223372036709301616"},
		{"&", leastText, "-1", leastText}, {"&", mostText, "-1", mostText}, {"&", mostText, leastText, "0"},
		{"==", mostText, leastText, "0"}, {"==", leastText, leastText, "1"}, {"<", leastText, mostText, "1"}, {"<", mostText, leastText, "0"}, {"<", "-1", "0", "1"},
	} {
		wantFold(t, "s1 = "+c.a+" / s2 = "+c.b+" / s3 = s1 "+c.sign+" s2", "s1 = "+c.a+" / s2 = "+c.b+" / s3 = "+c.want)
	}
}

func TestFoldOfSlotsThatAreMadeAnew(t *testing.T) {
	for _, anew := range []string{"s1 = get", "s1 = r0[s2]", "s1 = r1[s1]", "s1 = r0[s1+s3]", "s1 = s2", "s1 = s2 + s1", "s1 = s1 - s2", "s1 = s3 * s3"} {
		wantUnknown(t, "s1 = 5 / "+anew+" / s3 = s1")
		wantUnknown(t, "s1 = 5 / s4 = 6 / "+anew+" / s3 = s1 + s4")
		// What was made of it ahead of that stays known.
		wantFold(t, "s1 = 5 / s0 = s1 / "+anew+" / s3 = s0", "s1 = 5 / s0 = 5 / "+anew+" / s3 = 5")
		wantFold(t, "s1 = 5 / "+anew+" / s1 = 6 / s3 = s1", "s1 = 5 / "+anew+" / s1 = 6 / s3 = 6")
	}
	// A store and a put make no slot, and use what they use as it is.
	wantFold(t, "s0 = 1 / s1 = 2 / r0[s0] = s1 / r1[s1+s0] = s0 / put s0 / s2 = s0 / s3 = s1", "s0 = 1 / s1 = 2 / r0[s0] = s1 / r1[s1+s0] = s0 / put s0 / s2 = 1 / s3 = 2")
	// A load of a known place is not known.
	wantUnknown(t, "s0 = 1 / r0[s0] = s0 / s1 = r0[s0] / s2 = s1")
}

func TestFoldOfJumps(t *testing.T) {
	const rest = " / b1: / ret s1 / b2: / ret s2"
	wantJump := func(steps string, jump string, told string, want string) {
		t.Helper()
		wantChanged(t, "Fold", impl.Fold, "b0: / "+steps+" / "+jump+rest, "b0: / "+told+" / "+want+rest)
	}
	for number, want := range map[string]string{"0": "go b2", "1": "go b1", "-1": "go b1", "2": "go b1", mostText: "go b1", leastText: "go b1"} {
		wantJump("s3 = "+number, "if s3 b1 b2", "s3 = "+number, want)
		wantJump("s0 = "+number, "if s0 b1 b2", "s0 = "+number, want)
		wantJump("s3 = "+number+" / s4 = s3", "if s4 b1 b2", "s3 = "+number+" / s4 = "+number, want)
		wantJump("s3 = "+number+" / s2 = 9", "if s3 b0 b0", "s3 = "+number+" / s2 = 9", "go b0")
		wantJump("s3 = "+number, "if s3 b2 b2", "s3 = "+number, "go b2")
		// Only a JmIf becomes another one, and only by its own slot.
		wantJump("s3 = "+number, "ret s3", "s3 = "+number, "ret s3")
		wantJump("s0 = "+number, "go b1", "s0 = "+number, "go b1")
		wantJump("s3 = "+number, "if s4 b1 b2", "s3 = "+number, "if s4 b1 b2")
		// It was known, and is made anew behind that.
		for _, anew := range []string{"s3 = get", "s3 = r0[s1]", "s3 = s1", "s3 = s3 + s1"} {
			wantJump("s3 = "+number+" / "+anew, "if s3 b1 b2", "s3 = "+number+" / "+anew, "if s3 b1 b2")
		}
		wantJump("s3 = get / s3 = "+number, "if s3 b1 b2", "s3 = get / s3 = "+number, want)
	}
	wantJump("s3 = 4 / s4 = 4 / s3 = s3 - s4", "if s3 b1 b2", "s3 = 4 / s4 = 4 / s3 = 0", "go b2")
	wantJump("s3 = 4 / s4 = 4 / s3 = s3 == s4", "if s3 b1 b2", "s3 = 4 / s4 = 4 / s3 = 1", "go b1")
	wantChanged(t, "Fold", impl.Fold, "b0: / if s0 b0 b1 / b1: / ret s0", "b0: / if s0 b0 b1 / b1: / ret s0")
}

func TestFoldBeginsEachBlockAnew(t *testing.T) {
	for _, text := range []string{
		"b0: / s1 = 5 / go b1 / b1: / s2 = s1 / if s1 b0 b1",
		"b0: / s1 = 5 / s2 = 6 / go b1 / b1: / s3 = s1 + s2 / ret s3",
		// By both ways, around a loop, and from a block that nobody comes to.
		"b0: / if s0 b1 b2 / b1: / s1 = 5 / go b3 / b2: / s1 = 5 / go b3 / b3: / s2 = s1 / ret s2",
		"b0: / s2 = s1 / s1 = 5 / go b0",
		"b0: / put s1 / go b2 / b1: / s1 = 5 / go b2 / b2: / s2 = s1 / ret s1",
		// Slots are 0 as a walk begins, which is not known either.
		"b0: / s3 = s4 / if s4 b0 b1 / b1: / ret s3",
	} {
		wantChanged(t, "Fold", impl.Fold, text, text)
	}
	wantChanged(t, "Fold", impl.Fold, "b0: / s1 = 5 / s2 = s1 / go b1 / b1: / s3 = s2 / s2 = 7 / s1 = s2 / if s2 b1 b0",
		"b0: / s1 = 5 / s2 = 5 / go b1 / b1: / s3 = s2 / s2 = 7 / s1 = 7 / go b1")
	// A block that nobody comes to is told, too.
	wantChanged(t, "Fold", impl.Fold, "b0: / ret s0 / b1: / s1 = 0 / s2 = s1 / if s2 b0 b1", "b0: / ret s0 / b1: / s1 = 0 / s2 = 0 / go b1")
}

// wantCopies tells the steps of a block, and its Jump, by what they are copies of.
func wantCopies(t *testing.T, text string, want string) {
	t.Helper()
	wantChanged(t, "Copies", impl.Copies, "b0: / "+text, "b0: / "+want)
}

// wantOriginal tells that no use of a block becomes another one.
func wantOriginal(t *testing.T, text string) {
	t.Helper()
	wantCopies(t, text, text)
}

func TestCopiesOfEachUse(t *testing.T) {
	wantOriginal(t, "ret s0")
	wantOriginal(t, "s1 = s0 / ret s0")
	wantOriginal(t, "s1 = s0 / s2 = 5 / s3 = get / put s4 / ret s3")
	for _, c := range []struct{ step, want string }{
		{"put s1", "put s0"}, {"s3 = s1", "s3 = s0"}, {"s3 = s1 + s2", "s3 = s0 + s2"}, {"s3 = s2 - s1", "s3 = s2 - s0"}, {"s3 = s1 * s1", "s3 = s0 * s0"},
		{"s3 = r0[s1]", "s3 = r0[s0]"}, {"s3 = r0[s1+s2]", "s3 = r0[s0+s2]"}, {"s3 = r0[s2+s1]", "s3 = r0[s2+s0]"}, {"s3 = r1[s2]", "s3 = r1[s2]"},
		{"r0[s1] = s2", "r0[s0] = s2"}, {"r0[s2] = s1", "r0[s2] = s0"}, {"r0[s1+s2] = s3", "r0[s0+s2] = s3"}, {"r0[s2+s1] = s3", "r0[s2+s0] = s3"}, {"r1[s1+s1] = s1", "r1[s0+s0] = s0"},
		{"s3 = get", "s3 = get"}, {"s3 = 1", "s3 = 1"},
	} {
		wantCopies(t, "s1 = s0 / "+c.step+" / ret s4", "s1 = s0 / "+c.want+" / ret s4")
		// Each second one, too, as long as none is made anew.
		wantCopies(t, "s1 = s0 / "+c.step+" / put s2 / "+c.step+" / ret s1", "s1 = s0 / "+c.want+" / put s2 / "+c.want+" / ret s0")
		wantOriginal(t, c.step+" / ret s4")
	}
	wantCopies(t, "s1 = s0 / ret s1", "s1 = s0 / ret s0")
	wantCopies(t, "s1 = s0 / if s1 b0 b0", "s1 = s0 / if s0 b0 b0")
	// A JmGo uses none: its A stays 0, though slot 0 is a copy.
	wantOriginal(t, "s0 = s1 / go b0")
	// Of several slots each has its own.
	wantCopies(t, "s2 = s0 / s3 = s1 / s4 = s2 + s3 / r0[s3+s2] = s4 / ret s3", "s2 = s0 / s3 = s1 / s4 = s0 + s1 / r0[s1+s0] = s4 / ret s1")
	// Only an InMove makes a copy, though another step may have the same.
	wantOriginal(t, "s1 = 5 / s2 = 5 / put s2 / s3 = r0[s0] / s4 = r0[s0] / ret s4")
}

func TestCopiesOfCopies(t *testing.T) {
	wantCopies(t, "s1 = s0 / s2 = s1 / s3 = s2 / put s3 / ret s2", "s1 = s0 / s2 = s0 / s3 = s0 / put s0 / ret s0")
	wantCopies(t, "s1 = s0 / s2 = s1 / s1 = 5 / put s2 / ret s1", "s1 = s0 / s2 = s0 / s1 = 5 / put s0 / ret s1")
	wantCopies(t, "s1 = s0 / s2 = s1 / s0 = 5 / put s2 / ret s1", "s1 = s0 / s2 = s0 / s0 = 5 / put s2 / ret s1")
	// A copy that is made a copy of another one.
	wantCopies(t, "s1 = s0 / s1 = s2 / put s1 / ret s0", "s1 = s0 / s1 = s2 / put s2 / ret s0")
	wantCopies(t, "s1 = s0 / s3 = s1 / s1 = s2 / put s3 / ret s1", "s1 = s0 / s3 = s0 / s1 = s2 / put s0 / ret s2")
}

func TestCopiesOfWhatIsMadeAnew(t *testing.T) {
	// A step that uses the slot that it makes is told as it begins, and changes it behind that.
	for _, c := range [][2]string{
		{"s0 = 5"}, {"s0 = get"}, {"s0 = s2"}, {"s0 = r0[s2]"}, {"s0 = s2 + s3"}, {"s0 = s0 + s0"}, {"s0 = r0[s0]"}, {"s0 = r0[s0+s2]"},
		{"s0 = s1 + s2", "s0 = s0 + s2"}, {"s0 = s2 - s1", "s0 = s2 - s0"}, {"s0 = r0[s1]", "s0 = r0[s0]"}, {"s0 = r0[s1+s1]", "s0 = r0[s0+s0]"},
	} {
		anew, told := c[0], c[1]
		if told == "" {
			told = anew
		}
		wantCopies(t, "s1 = s0 / "+anew+" / put s1 / ret s1", "s1 = s0 / "+told+" / put s1 / ret s1")
		wantCopies(t, "s1 = s0 / s4 = s1 / put s4 / "+anew+" / put s4 / ret s1", "s1 = s0 / s4 = s0 / put s0 / "+told+" / put s4 / ret s1")
		// Behind that the slot can be copied again.
		if !strings.HasSuffix(anew, "= s2") {
			wantCopies(t, "s1 = s0 / "+anew+" / s4 = s0 / put s1 / ret s4", "s1 = s0 / "+told+" / s4 = s0 / put s1 / ret s0")
		}
	}
	wantCopies(t, "s1 = s0 / s0 = s2 / s4 = s0 / put s1 / ret s4", "s1 = s0 / s0 = s2 / s4 = s2 / put s1 / ret s2")
	for _, c := range [][2]string{
		{"s1 = 5"}, {"s1 = get"}, {"s1 = r0[s2]"}, {"s1 = s2 + s3"}, {"s1 = r0[s0+s3]"},
		{"s1 = s1 + s2", "s1 = s0 + s2"}, {"s1 = s2 < s1", "s1 = s2 < s0"}, {"s1 = r0[s1]", "s1 = r0[s0]"}, {"s1 = s1 * s1", "s1 = s0 * s0"},
	} {
		anew, told := c[0], c[1]
		if told == "" {
			told = anew
		}
		wantCopies(t, "s1 = s0 / "+anew+" / put s1 / ret s0", "s1 = s0 / "+told+" / put s1 / ret s0")
		// Two copies of one slot, of which one is made anew.
		wantCopies(t, "s1 = s0 / s4 = s1 / "+anew+" / put s4 / ret s1", "s1 = s0 / s4 = s0 / "+told+" / put s0 / ret s1")
	}
	// Copies of a slot that is made anew are no copies of each other.
	wantCopies(t, "s1 = s0 / s2 = s1 / s0 = get / r0[s1] = s2 / ret s0", "s1 = s0 / s2 = s0 / s0 = get / r0[s1] = s2 / ret s0")
	// A store and a put make no slot: slot 0 stays what it is.
	wantCopies(t, "s1 = s0 / r0[s2] = s3 / put s4 / ret s1", "s1 = s0 / r0[s2] = s3 / put s4 / ret s0")
	wantCopies(t, "s0 = s1 / r0[s2] = s3 / put s4 / ret s0", "s0 = s1 / r0[s2] = s3 / put s4 / ret s1")
}

func TestCopiesOfAMoveOfItself(t *testing.T) {
	// As it stands.
	wantCopies(t, "s1 = s0 / s0 = s0 / put s1 / ret s0", "s1 = s0 / s0 = s0 / put s0 / ret s0")
	wantOriginal(t, "s0 = s0 / ret s0")
	// As told: copied back to the one of which it is a copy.
	wantCopies(t, "s1 = s0 / s0 = s1 / put s1 / ret s0", "s1 = s0 / s0 = s0 / put s0 / ret s0")
	wantCopies(t, "s1 = s0 / s2 = s1 / s0 = s2 / put s2 / put s1 / ret s0", "s1 = s0 / s2 = s0 / s0 = s0 / put s0 / put s0 / ret s0")
	wantCopies(t, "s1 = s0 / s0 = s1 / s0 = 5 / put s1 / ret s0", "s1 = s0 / s0 = s0 / s0 = 5 / put s1 / ret s0")
	// As it stands, but not as told: it is told as what it is a copy of, and stays one.
	wantCopies(t, "s1 = s0 / s1 = s1 / put s1 / ret s0", "s1 = s0 / s1 = s0 / put s0 / ret s0")
	wantCopies(t, "s1 = s0 / s2 = s1 / s1 = s1 / s1 = s2 / put s1 / ret s2", "s1 = s0 / s2 = s0 / s1 = s0 / s1 = s0 / put s0 / ret s0")
	// The other way behind it: slot 1 is a copy of none any more, and is copied.
	wantCopies(t, "s1 = s0 / s0 = get / s0 = s1 / put s0 / ret s1", "s1 = s0 / s0 = get / s0 = s1 / put s1 / ret s1")
	// Two slots that change places by a third one.
	wantCopies(t, "s2 = s0 / s0 = s1 / s1 = s2 / put s0 / put s1 / ret s2", "s2 = s0 / s0 = s1 / s1 = s2 / put s0 / put s2 / ret s2")
}

func TestCopiesBeginEachBlockAnew(t *testing.T) {
	for _, text := range []string{
		"b0: / s1 = s0 / go b1 / b1: / put s1 / ret s1",
		"b0: / put s1 / s1 = s0 / go b0",
		"b0: / if s0 b1 b2 / b1: / s1 = s0 / go b3 / b2: / s1 = s0 / go b3 / b3: / s2 = s1 / ret s1",
	} {
		wantChanged(t, "Copies", impl.Copies, text, text)
	}
	wantChanged(t, "Copies", impl.Copies, "b0: / s1 = s0 / put s1 / go b1 / b1: / put s1 / s0 = s1 / put s0 / if s0 b0 b1 / b2: / s3 = s4 / ret s3",
		"b0: / s1 = s0 / put s0 / go b1 / b1: / put s1 / s0 = s1 / put s1 / if s1 b0 b1 / b2: / s3 = s4 / ret s4")
}

func TestFoldTellsFields(t *testing.T) {
	g := impl.Graph{Sizes: []int{7, 16, 1}, Params: 1, Vars: 2, Slots: 5, Blocks: []impl.Block{
		{Code: []impl.Instr{{D: 3, N: 9}, {Op: impl.InMove, D: 4, A: 3}, {Op: impl.InBin, D: 2, A: 3, B: 4, Text: "=="}}, Jump: impl.JmIf, A: 2, To: 1, Else: 2},
		{Code: []impl.Instr{{Op: impl.InMove, D: 4, A: 3}, {Op: impl.InLoad, D: 1, A: -1, B: 4, N: 2}, {Op: impl.InStore, A: 4, B: 1, C: 4, N: 1}}, Jump: impl.JmRet, A: 4},
		{Jump: impl.JmIf, A: 4, To: 1, Else: 2},
	}}
	want := otherGraph(g)
	want.Blocks[0] = impl.Block{Code: []impl.Instr{{D: 3, N: 9}, {D: 4, N: 9}, {D: 2, N: 1}}, To: 1}
	if got := impl.Fold(g); plain(got) != plain(want) || !impl.SameGraph(got, want) {
		t.Errorf("Fold tells %s; want %s", plain(got), plain(want))
	}
	want = otherGraph(g)
	want.Blocks[0].Code[2].B = 3
	want.Blocks[1] = impl.Block{Code: []impl.Instr{{Op: impl.InMove, D: 4, A: 3}, {Op: impl.InLoad, D: 1, A: -1, B: 3, N: 2}, {Op: impl.InStore, A: 3, B: 1, C: 3, N: 1}}, Jump: impl.JmRet, A: 3}
	if got := impl.Copies(g); plain(got) != plain(want) || !impl.SameGraph(got, want) {
		t.Errorf("Copies tells %s; want %s", plain(got), plain(want))
	}
}

// levelOf is Optimize of one level.
func levelOf(level int) func(g impl.Graph) impl.Graph {
	return func(g impl.Graph) impl.Graph { return impl.Optimize(g, level) }
}

// wantLevels tells a graph what each level makes of it.
func wantLevels(t *testing.T, text string, one string, two string) {
	t.Helper()
	for _, level := range []int{math.MinInt, -1, 0, 3, math.MaxInt} {
		wantChanged(t, fmt.Sprint("level ", level), levelOf(level), text, text)
	}
	wantChanged(t, "level 1", levelOf(1), text, one)
	wantChanged(t, "level 2", levelOf(2), text, two)
}

func TestOptimizeOfEachLevel(t *testing.T) {
	wantLevels(t, "b0: / ret s0", "b0: / ret s0", "b0: / ret s0")
	wantLevels(t, "b0: / s2 = s0 / s3 = s2 / s4 = 5 / ret s3", "b0: / ret s0", "b0: / ret s0")
	wantLevels(t, "b0: / s2 = 2 / s3 = 3 / s4 = s2 * s3 / ret s4", "b0: / s4 = 6 / ret s4", "b0: / s4 = 6 / ret s4")
	// Loads, stores, and a block that one does not come to: of level 2 alone.
	wantLevels(t, "b0: / r0[s0] = s1 / s2 = r0[s0] / r0[s0] = s2 / put s2 / go b2 / b1: / put s0 / go b2 / b2: / ret s1",
		"b0: / r0[s0] = s1 / s2 = r0[s0] / r0[s0] = s2 / put s2 / go b2 / b1: / put s0 / go b2 / b2: / ret s1",
		"b0: / r0[s0] = s1 / put s1 / go b1 / b1: / ret s1")
	// A Jump on what is known leaves a block that one does not come to.
	wantLevels(t, "b0: / s2 = 0 / if s2 b1 b2 / b1: / s3 = 4 / ret s3 / b2: / ret s0",
		"b0: / go b2 / b1: / s3 = 4 / ret s3 / b2: / ret s0",
		"b0: / go b1 / b1: / ret s0")
	// One place, told so by what is reckoned ahead of it; and a Jump on what was loaded, which Fold tells the second time.
	wantLevels(t, "b0: / s2 = 1 / s3 = s2 + s2 / r0[s3] = s2 / s4 = 2 / s4 = r0[s4] / if s4 b1 b2 / b1: / ret s0 / b2: / ret s1",
		"b0: / s2 = 1 / s3 = 2 / r0[s3] = s2 / s4 = 2 / s4 = r0[s4] / if s4 b1 b2 / b1: / ret s0 / b2: / ret s1",
		"b0: / s2 = 1 / s3 = 2 / r0[s3] = s2 / go b1 / b1: / ret s0")
	// A load that nobody wants any more stays where it may trap, and goes as a move.
	wantLevels(t, "b0: / s2 = r0[s0] / s3 = r0[s0] / ret s1", "b0: / s2 = r0[s0] / s3 = r0[s0] / ret s1", "b0: / s2 = r0[s0] / ret s1")
	// Clean is told once: what just a block uses that nobody comes to stays wanted.
	wantLevels(t, "b0: / s2 = 5 / s3 = 0 / if s3 b1 b2 / b1: / put s2 / ret s2 / b2: / ret s0",
		"b0: / go b2 / b1: / put s2 / ret s2 / b2: / ret s0",
		"b0: / go b1 / b1: / ret s0")
}

func TestOptimizeOfPrograms(t *testing.T) {
	for _, c := range []struct {
		body          string
		own, one, two int
	}{
		{"", 2, 2, 2},
		{"return x;", 4, 3, 1},
		{"let z = 2 * 3 + x; put z; return z * z;", 14, 7, 5},
		{"if 1 { put x; } else { put y; }", 10, 7, 5},
		{"a[x] = y; put a[x]; a[x] = a[x] + 1;", 14, 9, 7},
		{"while x { put x; x = x - 1; } return y;", 14, 10, 8},
		{"a[1] = 3; if a[1] - 3 { put 1; } else { put 2; }", 16, 16, 9},
	} {
		p := parsed(t, body(c.body))
		g := impl.Lower(p)
		wantWeights(t, c.body, g, c.own, c.one, c.two)
		for _, args := range [][]int{{0, 0}, {0, 1}, {1, 2}, {2, 2}, {3, 0}, {-1, 7}} {
			wantSameFolded(t, c.body, g, args, []int{5})
			wantMeantFolded(t, c.body, p, args, []int{5})
		}
	}
}

func wantWeights(t *testing.T, name string, g impl.Graph, own int, one int, two int) {
	t.Helper()
	got := [3]int{impl.Weight(g), impl.Weight(impl.Optimize(g, 1)), impl.Weight(impl.Optimize(g, 2))}
	if got != [3]int{own, one, two} {
		t.Errorf("%s: weights %v; want %v", name, got, [3]int{own, one, two})
	}
}

func TestWeight(t *testing.T) {
	for _, c := range []struct {
		name string
		g    impl.Graph
		want int
	}{
		{"the zero value", impl.Graph{}, 0},
		{"no block", impl.Graph{Sizes: []int{4}, Params: 1, Vars: 1, Slots: 3}, 0},
		{"an empty list", impl.Graph{Sizes: []int{4}, Slots: 3, Blocks: []impl.Block{}}, 0},
		{"no step", withCode(3, nil), 1},
		{"each kind", sample(), 12},
		{"one block", blockOf(t, 3, "s0 = 1 / s1 = s0 / put s1"), 4},
		{"nobody comes there", graphOf(t, 1, 3, "b0: / ret s0 / b1: / r0[s2] = s1 / go b1 / b2: / s0 = r0[s1] / go b1"), 5},
		{"most of all", impl.Graph{Sizes: []int{1}, Slots: 1, Blocks: append(bare(impl.MaxBlocks-1), impl.Block{Code: gets(impl.MaxCode)})}, impl.MaxBlocks + impl.MaxCode},
		// Steps and Jumps count, whatever stands in them.
		{"a wrong graph", impl.Graph{Slots: -7, Blocks: []impl.Block{{Jump: 9}, {Code: []impl.Instr{{Op: 3, D: -1, Text: "="}, {Op: 7}, {Op: -3}}}}}, 5},
		{"a long graph", impl.Graph{Blocks: append(bare(400), impl.Block{Code: gets(5000)})}, 5401},
	} {
		if got := impl.Weight(c.g); got != c.want {
			t.Errorf("%s: weight %d; want %d", c.name, got, c.want)
		}
	}
	for name, g := range wrongGraphs() {
		if got := impl.Weight(g); got != len(stepsOf(g))+len(g.Blocks) {
			t.Errorf("%s: weight %d", name, got)
		}
	}
}

// wantToldFolded holds what is told of a graph that is GraphOk against what is told a second time; it tells in how many steps and Jumps Fold and Copies have something else.
func wantToldFolded(t *testing.T, name string, g impl.Graph) (int, int) {
	t.Helper()
	for _, c := range []struct {
		what      string
		got, want impl.Graph
	}{
		{"Fold", impl.Fold(g), reckoned(g)}, {"Copies", impl.Copies(g), copied(g)}, {"level 0", impl.Optimize(g, 0), g},
		{"level 1", impl.Optimize(g, 1), levelled(g, 1)}, {"level 2", impl.Optimize(g, 2), levelled(g, 2)}, {"level 3", impl.Optimize(g, 3), g},
	} {
		if plain(c.got) != plain(c.want) || !impl.SameGraph(c.got, c.want) || !impl.GraphOk(c.got) {
			t.Fatalf("%s: %s of\n%stells %s; want\n%s", name, c.what, graphText(g), plain(c.got), graphText(c.want))
		}
	}
	wantNoneGreater(t, name, g)
	return differences(g, impl.Fold(g)), differences(g, impl.Copies(g))
}

// differences counts the lines of two graphs' texts that are not alike.
func differences(g impl.Graph, h impl.Graph) int {
	count, other := 0, strings.Split(graphText(h), "\n")
	for i, line := range strings.Split(graphText(g), "\n") {
		if line != other[i] {
			count++
		}
	}
	return count
}

// wantNoneGreater is what promise 9 has of weights. Level 2 can be greater than level 1 only where a load has become a move: TestWeightsWhereALoadBecomesAMove.
func wantNoneGreater(t *testing.T, name string, g impl.Graph) {
	t.Helper()
	own, one, two := impl.Weight(g), impl.Weight(impl.Optimize(g, 1)), impl.Weight(impl.Optimize(g, 2))
	if impl.Weight(impl.Fold(g)) != own || impl.Weight(impl.Copies(g)) != own || one > own || two > own {
		t.Fatalf("%s: the weight of\n%sis %d; of Fold %d, of Copies %d, of the levels %d and %d", name, graphText(g), own, impl.Weight(impl.Fold(g)), impl.Weight(impl.Copies(g)), one, two)
	}
	f := impl.Forward(impl.Fold(g))
	if two > one && impl.Loads(f) == impl.Loads(g) || two > impl.Weight(impl.Optimize(f, 1)) {
		t.Fatalf("%s: the levels of\n%shave weights %d and %d", name, graphText(g), one, two)
	}
}

func TestWeightsWhereALoadBecomesAMove(t *testing.T) {
	// Each copy of what is loaded is told as that; of what is known, each is a number of its own.
	wantWeights(t, "a number", impl.Lower(parsed(t, body("a[0] = 5; let z = a[0]; put z; put z; put z;"))), 14, 10, 11)
	// What was stored is kept in a slot that was a copy, till it is moved.
	g := graphOf(t, 1, 4, "b0: / s1 = s0 / r0[s3] = s1 / s0 = get / s2 = r0[s3] / go b1 / b1: / put s2 / ret s0")
	wantWeights(t, "a copy", g, 7, 6, 7)
	wantSameFolded(t, "a copy", g, []int{3}, []int{4})
}

// wantSameFolded is promise 9 of a graph that is GraphOk. It tells in how many steps and Jumps Fold and Copies have something else.
func wantSameFolded(t *testing.T, name string, g impl.Graph, args []int, input []int) (int, int) {
	t.Helper()
	folds, copies := wantToldFolded(t, name, g)
	wantSameFoldedWalks(t, name, g, args, input)
	return folds, copies
}

// wantSameFoldedWalks tells where a graph ends the ends of what it becomes, at each of many fuels.
func wantSameFoldedWalks(t *testing.T, name string, g impl.Graph, args []int, input []int) {
	t.Helper()
	changes := map[string]impl.Graph{
		"Fold": impl.Fold(g), "Copies": impl.Copies(g), "level 0": impl.Optimize(g, 0), "level 1": impl.Optimize(g, 1), "level 2": impl.Optimize(g, 2),
	}
	for _, fuel := range []int{0, 1, 2, 3, 5, 8, 13, 40, 100, 1000, impl.MaxFuel} {
		want := impl.Walk(g, args, input, fuel)
		for what, changed := range changes {
			got := impl.Walk(changed, args, input, fuel)
			right := impl.SameEnd(got, want)
			if want.Code == impl.EndFuel && (what == "level 1" || what == "level 2") {
				// Whoever has less to do comes as far at least; of the others each step and each Jump takes what it took.
				right = impl.Prefix(want.Out, got.Out)
			}
			if want.Code == impl.EndTrap && what == "level 2" && got.Code == impl.EndFuel {
				// A store that went may have been the one that trapped: the one that stays does so within the same block.
				right = impl.SameEnd(impl.Walk(changed, args, input, min(fuel+impl.MaxCode, impl.MaxFuel)), want)
			}
			if !right {
				t.Fatalf("%s: %s of\n%swith %v / %v and %d of fuel ends %+v; without %+v", name, what, graphText(g), args, input, fuel, got, want)
			}
		}
	}
}

// wantMeantFolded tells that the changed graphs of a program do what its text means; and whether that ends.
func wantMeantFolded(t *testing.T, text string, p impl.Program, args []int, input []int) bool {
	t.Helper()
	mean := impl.Mean(p, args, input, 1000)
	if mean.Code == impl.EndFuel {
		return false
	}
	g := impl.Lower(p)
	for name, changed := range map[string]impl.Graph{
		"Fold": impl.Fold(g), "Copies": impl.Copies(g), "Copies of Fold": impl.Copies(impl.Fold(g)), "Fold of Copies": impl.Fold(impl.Copies(g)),
		"level 0": impl.Optimize(g, 0), "level 1": impl.Optimize(g, 1), "level 2": impl.Optimize(g, 2), "level 2 of level 2": impl.Optimize(impl.Optimize(g, 2), 2),
	} {
		if got := impl.Walk(changed, args, input, impl.MaxFuel); !impl.SameEnd(got, mean) {
			t.Fatalf("%s with %v / %v: %s ends %+v; its text means %+v", text, args, input, name, got, mean)
		}
	}
	return true
}

func TestReckonedAndCopiedGraphsDoTheSame(t *testing.T) {
	t.Parallel()
	known, told := newCatch(), newCatch()
	for kind, make := range []func(seed int64) (impl.Graph, []int, []int){figureGraph, storeGraph, valueGraph, memoryGraph, madeGraph} {
		for seed := range int64(seeds / 6) {
			g, args, input := make(seed)
			folds, copies := wantSameFolded(t, fmt.Sprint("kind ", kind, " seed ", seed), g, args, input)
			code := impl.Walk(g, args, input, impl.MaxFuel).Code
			known.add(code, folds)
			told.add(code, copies)
		}
	}
	known.wantMany(t, "steps that are reckoned", seeds/10, seeds/30)
	told.wantMany(t, "copies", seeds/10, seeds/30)
	// Numbers that are no places, and what no walk is begun with.
	for seed := range int64(seeds / 30) {
		g, _, _ := figureGraph(seed)
		for _, args := range [][]int{{math.MaxInt, math.MinInt}, {-1, 4}, {3, -3}, {0}, nil, {0, 0, 0}} {
			wantSameFolded(t, fmt.Sprint("seed ", seed), g, args, []int{math.MinInt, 5, math.MaxInt})
		}
		wantSameFolded(t, fmt.Sprint("seed ", seed), g, []int{0, 1}, make([]int, 100+seed%2))
	}
	wantSameFolded(t, "each kind", sample(), []int{3}, []int{4})
	shapes(2, func(g impl.Graph) { wantSameFolded(t, "a shape", g, nil, nil) })
}

func TestEachLevelOfProgramsDoesWhatTheyMean(t *testing.T) {
	t.Parallel()
	known, told := newCatch(), newCatch()
	for seed := range int64(seeds / 10) {
		text := memoryProgram(seed)
		p := parsed(t, text)
		g := impl.Lower(p)
		if !impl.GraphOk(g) {
			continue
		}
		folds, copies := wantToldFolded(t, text, g)
		if one, two := impl.Weight(impl.Optimize(g, 1)), impl.Weight(impl.Optimize(g, 2)); two > one {
			t.Fatalf("%s: the levels have weights %d and %d", text, one, two)
		}
		for _, args := range [][]int{{0, 1}, {2, 2}, {1, int(seed % 5)}} {
			input := []int{int(seed % 3), 1, 0, 2}
			wantSameFoldedWalks(t, text, g, args, input)
			if wantMeantFolded(t, text, p, args, input) {
				code := impl.Walk(g, args, input, impl.MaxFuel).Code
				known.add(code, folds)
				told.add(code, copies)
			}
		}
	}
	known.wantMany(t, "steps that are reckoned", seeds/30, seeds/30)
	told.wantMany(t, "copies", seeds/30, seeds/30)
	for seed := range int64(seeds / 6) {
		p, args, input := start(seed)
		if g := impl.Lower(p); impl.GraphOk(g) {
			wantSameFolded(t, fmt.Sprint("program ", seed), g, args, input)
			wantMeantFolded(t, fmt.Sprint("program ", seed), p, args, input)
		}
	}
}

func TestFoldAndCopiesOfAllBlocksOfFewSteps(t *testing.T) {
	t.Parallel()
	steps := []impl.Instr{}
	for _, line := range []string{
		"s0 = 1", "s1 = 0", "s0 = s1", "s0 = s2", "s1 = s0", "s1 = s1", "s2 = s0", "s2 = s1",
		"s2 = s0 + s1", "s0 = s0 - s2", "s1 = get", "s2 = r0[s1]", "r0[s1] = s2",
	} {
		steps = append(steps, stepOf(t, line))
	}
	known, told := 0, 0
	for i := range 13 * 13 * 13 * 13 {
		code := []impl.Instr{steps[i/2197], steps[i/169%13], steps[i/13%13], steps[i%13]}
		g := impl.Graph{Sizes: []int{4, 2}, Params: 2, Vars: 2, Slots: 3, Blocks: []impl.Block{{Code: code, Jump: impl.JmIf, A: i % 3, To: 1, Else: 2}, {}, {}}}
		g.Blocks[1], g.Blocks[2] = showAll(g, 2), showAll(g, 0)
		f, c := impl.Fold(g), impl.Copies(g)
		if want := reckoned(g); !impl.SameGraph(f, want) {
			t.Fatalf("%q becomes %s; want %s", codeText(code), plain(f.Blocks[0]), plain(want.Blocks[0]))
		}
		if want := copied(g); !impl.SameGraph(c, want) {
			t.Fatalf("%q becomes %s; want %s", codeText(code), plain(c.Blocks[0]), plain(want.Blocks[0]))
		}
		changes := []impl.Graph{impl.Optimize(g, 1), impl.Optimize(g, 2)}
		if !impl.SameGraph(f, g) {
			known++
			changes = append(changes, f)
		}
		if !impl.SameGraph(c, g) {
			told++
			changes = append(changes, c)
		}
		for _, args := range [][]int{{0, 0}, {0, 1}, {1, 2}, {3, -4}} {
			want := impl.Walk(g, args, []int{2}, 100)
			for _, changed := range changes {
				if got := impl.Walk(changed, args, []int{2}, 100); !impl.SameEnd(got, want) {
					t.Fatalf("%q with %v ends %+v as %s; without %+v", codeText(code), args, got, plain(changed.Blocks[0]), want)
				}
			}
		}
	}
	if known < 5000 || told < 5000 {
		t.Errorf("only %d blocks have steps that are reckoned, %d copies", known, told)
	}
}

func TestFoldOfMostSteps(t *testing.T) {
	last := impl.MaxSlots - 1
	// Each step makes the next slot of the one ahead of it; the first of a number, or of itself.
	chain := withCode(impl.MaxSlots, everySlot(func(slot int) impl.Instr { return impl.Instr{Op: impl.InMove, D: slot, A: max(0, slot-1)} }))
	chain.Blocks[0].Jump, chain.Blocks[0].A = impl.JmRet, last
	c := impl.Copies(chain)
	if x := c.Blocks[0]; x.A != 0 || x.Code[last] != (impl.Instr{Op: impl.InMove, D: last}) || !impl.SameGraph(impl.Fold(chain), chain) {
		t.Errorf("the last step becomes %s, the Jump %d", plain(x.Code[last]), x.A)
	}
	if one := impl.Optimize(chain, 1); codeText(one.Blocks[0].Code) != "s0 = s0" || one.Blocks[0].A != 0 {
		t.Errorf("level 1 is %s", plain(one))
	}
	chain.Blocks[0].Code[0] = impl.Instr{N: 7}
	f := impl.Fold(chain)
	if x := f.Blocks[0]; x.A != last || x.Code[last] != (impl.Instr{D: last, N: 7}) || !impl.SameGraph(impl.Copies(f), f) {
		t.Errorf("the last step becomes %s, the Jump %d", plain(x.Code[last]), x.A)
	}
	if one := impl.Optimize(chain, 1); codeText(one.Blocks[0].Code) != "s999 = 7" {
		t.Errorf("level 1 is %s", plain(one))
	}
	// One number twice as much, over and over, until 64 bits are gone around.
	double := withCode(impl.MaxSlots, slices.Repeat([]impl.Instr{{Op: impl.InBin, D: last, A: last, B: last, Text: "+"}}, impl.MaxCode))
	double.Blocks[0].Code[0] = impl.Instr{D: last, N: 3}
	f = impl.Fold(double)
	if x := f.Blocks[0].Code; x[1].N != 6 || x[62].N != -1<<62 || x[63].N != math.MinInt || x[64] != (impl.Instr{D: last}) || x[999] != x[64] {
		t.Errorf("reckoned: %s", plain(x[60:66]))
	}
	// All slots are copies of one, until that one is made anew.
	copies := everySlot(func(slot int) impl.Instr { return impl.Instr{Op: impl.InMove, D: slot, A: last} })
	copies[last] = impl.Instr{Op: impl.InPut, A: 5}
	c = impl.Copies(withCode(impl.MaxSlots, copies))
	if x := c.Blocks[0].Code[last]; x.A != last {
		t.Errorf("a copy is put as %s", plain(x))
	}
	copies[last-1] = impl.Instr{Op: impl.InGet, D: last}
	c = impl.Copies(withCode(impl.MaxSlots, copies))
	if x := c.Blocks[0].Code[last]; x.A != 5 {
		t.Errorf("what is made anew is put as %s", plain(x))
	}
}

func TestFoldAtTheEdgesOfGraphs(t *testing.T) {
	seen := []impl.Instr{{D: 1, N: 4}, {Op: impl.InMove, D: 2, A: 1}, {Op: impl.InPut, A: 2}}
	most := impl.Graph{Sizes: []int{1}, Slots: impl.MaxSlots, Blocks: bare(impl.MaxBlocks)}
	for i := range most.Blocks {
		most.Blocks[i] = impl.Block{Code: seen, Jump: impl.JmIf, A: 1, To: (i + 1) % impl.MaxBlocks}
	}
	most.Blocks[0].Code = slices.Concat(seen, gets(impl.MaxCode-3*impl.MaxBlocks))
	wantToldFolded(t, "most of all", most)
	for _, b := range impl.Fold(most).Blocks {
		if b.Jump != impl.JmGo || b.Code[1] != (impl.Instr{D: 2, N: 4}) {
			t.Fatalf("a block becomes %s", plain(b))
		}
	}
	for name, change := range map[string]func(g *impl.Graph){
		"one step more":  func(g *impl.Graph) { g.Blocks[0].Code = append(g.Blocks[0].Code, gets(1)...) },
		"one slot more":  func(g *impl.Graph) { g.Slots++ },
		"one block more": func(g *impl.Graph) { g.Blocks = append(g.Blocks, impl.Block{}) },
	} {
		g := otherGraph(most)
		change(&g)
		wantWrongFold(t, name, g)
	}
	if got := impl.Optimize(withCode(0, nil), 2); !impl.SameGraph(got, withCode(0, nil)) {
		t.Errorf("a graph without slots becomes %s", plain(got))
	}
}

// foldChanges are all changes of a graph that chapter 9 has, at right and wrong levels.
func foldChanges() map[string]func(g impl.Graph) impl.Graph {
	changes := map[string]func(g impl.Graph) impl.Graph{"Fold": impl.Fold, "Copies": impl.Copies}
	for _, level := range []int{math.MinInt, -1, 0, 1, 2, 3, math.MaxInt} {
		changes[fmt.Sprint("level ", level)] = levelOf(level)
	}
	return changes
}

// wantWrongFold tells a graph that is not GraphOk as it is.
func wantWrongFold(t *testing.T, name string, g impl.Graph) {
	t.Helper()
	if impl.GraphOk(g) {
		t.Errorf("%s: is GraphOk", name)
	}
	for what, change := range foldChanges() {
		if got := change(g); plain(got) != plain(g) || !impl.SameGraph(got, g) {
			t.Errorf("%s: %s tells %s; want %s", name, what, plain(got), plain(g))
		}
	}
	if got := impl.Weight(g); got != len(stepsOf(g))+len(g.Blocks) {
		t.Errorf("%s: weight %d", name, got)
	}
}

func TestFoldOfWrongGraphs(t *testing.T) {
	for name, g := range wrongGraphs() {
		wantWrongFold(t, name, g)
	}
	wantWrongFold(t, "no block", impl.Graph{Sizes: []int{4}, Params: 1, Vars: 1, Slots: 3})
	// A step, a use and a Jump would become another one, were the graph right.
	const known = "b0: / s2 = 5 / s3 = s2 / s1 = s0 / put s1 / if s3 b0 b1 / b1: / ret s0"
	wantChanged(t, "Fold", impl.Fold, known, "b0: / s2 = 5 / s3 = 5 / s1 = s0 / put s1 / go b0 / b1: / ret s0")
	wantChanged(t, "Copies", impl.Copies, known, "b0: / s2 = 5 / s3 = s2 / s1 = s0 / put s0 / if s2 b0 b1 / b1: / ret s0")
	for name, change := range map[string]func(g *impl.Graph){
		"a slot behind the last":    func(g *impl.Graph) { g.Blocks[1].Code = append(g.Blocks[1].Code, impl.Instr{D: 5}) },
		"a slot below 0":            func(g *impl.Graph) { g.Blocks[0].Code[3].A = -1 },
		"an Op that is none":        func(g *impl.Graph) { g.Blocks[0].Code = append(g.Blocks[0].Code, impl.Instr{Op: 7}) },
		"a sign that is none":       func(g *impl.Graph) { g.Blocks[0].Code[1] = impl.Instr{Op: impl.InBin, D: 3, A: 2, B: 2, Text: "/"} },
		"a Jump that is none":       func(g *impl.Graph) { g.Blocks[1].Jump = 3 },
		"a Jump of no slot":         func(g *impl.Graph) { g.Blocks[1].A = 5 },
		"a Jump to no block":        func(g *impl.Graph) { g.Blocks[0].Else = 2 },
		"another block is wrong":    func(g *impl.Graph) { g.Blocks = append(g.Blocks, impl.Block{To: 3}) },
		"a JmGo with a slot":        func(g *impl.Graph) { g.Blocks = append(g.Blocks, impl.Block{A: 1}) },
		"a region that is too long": func(g *impl.Graph) { g.Sizes[0] = impl.MaxSize + 1 },
		"too many parameters":       func(g *impl.Graph) { g.Params = 7 },
	} {
		g := graphOf(t, 2, 5, known)
		change(&g)
		wantWrongFold(t, name, g)
	}
	for _, p := range []impl.Program{withExps(20, impl.MaxSlots-20), withBlocks(impl.MaxBlocks + 1), withSteps(impl.MaxCode + 1)} {
		wantWrongFold(t, "a long program", impl.Lower(p))
	}
	farGraphs(func(name string, g impl.Graph) { wantWrongFold(t, name, g) })
}

// foldGraphs are right and wrong ones.
func foldGraphs(yield func(g impl.Graph)) {
	someGraphs(func(g impl.Graph, _ []int, _ []int) { yield(g) })
	for seed := range int64(100) {
		g, _, _ := figureGraph(seed)
		yield(g)
		g.Slots = impl.MaxSlots + 1
		yield(g)
	}
}

func TestFoldWritesIntoNothing(t *testing.T) {
	foldGraphs(func(g impl.Graph) {
		g, tell := roomy(g)
		ahead := tell()
		for _, change := range foldChanges() {
			change(g)
		}
		impl.Weight(g)
		if tell() != ahead {
			t.Fatalf("written into: %s", plain(g))
		}
	})
}

func TestAnswersOfFoldAreNewMemory(t *testing.T) {
	t.Parallel()
	foldGraphs(func(g impl.Graph) {
		ahead := plain(g)
		for what, change := range foldChanges() {
			changed, want := change(g), plain(change(g))
			wantOwnMemory(t, g, changed)
			for i, b := range changed.Blocks {
				// The lists of all blocks may stand in one row, but none reaches into another.
				rest := plain(changed.Blocks[i+1:])
				room := b.Code[:cap(b.Code)]
				for j := range room {
					room[j] = impl.Instr{Op: -7}
				}
				if plain(changed.Blocks[i+1:]) != rest {
					t.Fatalf("two lists of %s of %s share memory", what, plain(g))
				}
			}
			spoilGraph(changed)
			if plain(g) != ahead || plain(change(g)) != want {
				t.Fatalf("%s shares memory with %s", what, plain(g))
			}
		}
	})
	// Where an argument's lists share memory, those of the answer do not.
	code := append(make([]impl.Instr, 0, 9), blockOf(t, 3, "s0 = r0[s1] / s1 = s0 / r0[s2] = s1").Blocks[0].Code...)
	blocks := bare(2)
	blocks[0].Code, blocks[1].Code = code, code
	blocks[0].To = 1
	for _, g := range []impl.Graph{{Sizes: []int{4}, Slots: 3, Blocks: blocks}, {Blocks: blocks}} {
		for what, change := range foldChanges() {
			changed := change(g)
			want := plain(changed.Blocks[1].Code)
			changed.Blocks[0].Code[0].D = 9
			if plain(changed.Blocks[1].Code) != want || code[0].D == 9 {
				t.Errorf("%s keeps what lists share", what)
			}
		}
	}
}
