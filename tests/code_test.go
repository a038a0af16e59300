package tests

import (
	"fmt"
	"math"
	"slices"
	"strings"
	"testing"

	"loop.example/g00385/impl"
)

// noColors tells -1 for each slot of a graph that is GraphOk.
func noColors(g impl.Graph) []int { return slices.Repeat([]int{-1}, g.Slots) }

// wordLines tells the words of an image without their numbers, with a stroke between two.
func wordLines(m impl.Image) string {
	lines := []string{}
	for _, line := range strings.Split(strings.TrimSuffix(impl.ShowCode(m), "\n"), "\n") {
		_, word, _ := strings.Cut(line, ": ")
		lines = append(lines, word)
	}
	return strings.Join(lines, " / ")
}

// wantCode tells a graph of 5 slots, two of them parameters, its Code.
func wantCode(t *testing.T, text string, want string) {
	t.Helper()
	wantCodeWith(t, text, "-1 -1 -1 -1 -1", want)
	g := graphOf(t, 2, 5, text)
	if got := impl.Code(g); wordLines(got) != want || !impl.SameImage(got, impl.CodeWith(g, noColors(g))) {
		t.Errorf("Code of %q is\n%s\nwant\n%s", text, wordLines(got), want)
	}
}

func wantCodeWith(t *testing.T, text string, colors string, want string) {
	t.Helper()
	g := graphOf(t, 2, 5, text)
	if got := wordLines(impl.CodeWith(g, slotsOf(colors))); got != want {
		t.Errorf("CodeWith of %q and %s is\n%s\nwant\n%s", text, colors, got, want)
	}
	wantToldCode(t, text, g, slotsOf(colors))
	for _, args := range [][]int{{0, 0}, {3, 1}, {-2, 5}} {
		wantSameCoded(t, text, g, slotsOf(colors), args, []int{4})
	}
}

func TestCodeOfEachStep(t *testing.T) {
	for step, want := range map[string]string{
		"s3 = 7":                    "li 1 0 0 7 / sd 1 0 0 3",
		"s3 = -12":                  "li 1 0 0 -12 / sd 1 0 0 3",
		"s0 = 0":                    "li 1 0 0 0 / sd 1 0 0 0",
		"s3 = 9223372036854775807":  "li 1 0 0 9223372036854775807 / sd 1 0 0 3",
		"s3 = -9223372036854775808": "li 1 0 0 -9223372036854775808 / sd 1 0 0 3",
		"s3 = s4":                   "ld 1 0 0 4 / sd 1 0 0 3",
		"s3 = s3":                   "ld 1 0 0 3 / sd 1 0 0 3",
		"s3 = s4 + s2":              "ld 1 0 0 4 / ld 2 0 0 2 / alu 3 1 2 0 / sd 3 0 0 3",
		"s3 = s4 - s2":              "ld 1 0 0 4 / ld 2 0 0 2 / alu 3 1 2 1 / sd 3 0 0 3",
		"s3 = s4 * s2":              "ld 1 0 0 4 / ld 2 0 0 2 / alu 3 1 2 2 / sd 3 0 0 3",
		"s3 = s4 & s2":              "ld 1 0 0 4 / ld 2 0 0 2 / alu 3 1 2 3 / sd 3 0 0 3",
		"s3 = s4 == s2":             "ld 1 0 0 4 / ld 2 0 0 2 / alu 3 1 2 4 / sd 3 0 0 3",
		"s3 = s4 < s2":              "ld 1 0 0 4 / ld 2 0 0 2 / alu 3 1 2 5 / sd 3 0 0 3",
		"s1 = s1 + s1":              "ld 1 0 0 1 / ld 2 0 0 1 / alu 3 1 2 0 / sd 3 0 0 1",
		"s3 = r1[s4]":               "ld 1 0 0 4 / lx 3 1 0 1 / sd 3 0 0 3",
		"s3 = r0[s4]":               "ld 1 0 0 4 / lx 3 1 0 0 / sd 3 0 0 3",
		"s3 = r1[s2+s4]":            "ld 1 0 0 4 / ld 2 0 0 2 / alu 1 1 2 0 / lx 3 1 0 1 / sd 3 0 0 3",
		"s3 = r0[s0+s4]":            "ld 1 0 0 4 / ld 2 0 0 0 / alu 1 1 2 0 / lx 3 1 0 0 / sd 3 0 0 3",
		"r1[s4] = s3":               "ld 1 0 0 4 / ld 3 0 0 3 / sx 3 1 0 1",
		"r1[s2+s4] = s3":            "ld 1 0 0 4 / ld 2 0 0 2 / alu 1 1 2 0 / ld 3 0 0 3 / sx 3 1 0 1",
		"r0[s0+s4] = s3":            "ld 1 0 0 4 / ld 2 0 0 0 / alu 1 1 2 0 / ld 3 0 0 3 / sx 3 1 0 0",
		"s3 = get":                  "in 1 0 0 0 / sd 1 0 0 3",
		"put s3":                    "ld 1 0 0 3 / out 1 0 0 0",
	} {
		wantCode(t, "b0: / "+step+" / ret s2", want+" / ld 1 0 0 2 / ret 1 0 0 0")
		// Twice, one behind the other, and in a block that nobody comes to.
		wantCode(t, "b0: / "+step+" / "+step+" / ret s2", want+" / "+want+" / ld 1 0 0 2 / ret 1 0 0 0")
		wantCode(t, "b0: / ret s2 / b1: / "+step+" / ret s2", "ld 1 0 0 2 / ret 1 0 0 0 / "+want+" / ld 1 0 0 2 / ret 1 0 0 0")
	}
}

func TestCodeOfEachJump(t *testing.T) {
	// Back to itself, and back further.
	wantCode(t, "b0: / go b0", "jmp 0 0 0 0")
	wantCode(t, "b0: / put s1 / go b1 / b1: / go b0", "ld 1 0 0 1 / out 1 0 0 0 / jmp 0 0 0 0")
	wantCode(t, "b0: / put s1 / go b1 / b1: / put s0 / go b1", "ld 1 0 0 1 / out 1 0 0 0 / ld 1 0 0 0 / out 1 0 0 0 / jmp 0 0 0 2")
	// To the next block, and to the one behind that.
	wantCode(t, "b0: / go b1 / b1: / ret s1", "ld 1 0 0 1 / ret 1 0 0 0")
	wantCode(t, "b0: / go b2 / b1: / ret s1 / b2: / ret s0", "jmp 0 0 0 3 / ld 1 0 0 1 / ret 1 0 0 0 / ld 1 0 0 0 / ret 1 0 0 0")
	// A JmIf: To the next one, Else to it, both, none.
	wantCode(t, "b0: / if s0 b1 b2 / b1: / ret s1 / b2: / ret s0", "ld 1 0 0 0 / jz 1 0 0 4 / ld 1 0 0 1 / ret 1 0 0 0 / ld 1 0 0 0 / ret 1 0 0 0")
	wantCode(t, "b0: / if s0 b2 b1 / b1: / ret s1 / b2: / ret s0", "ld 1 0 0 0 / jz 1 0 0 3 / jmp 0 0 0 5 / ld 1 0 0 1 / ret 1 0 0 0 / ld 1 0 0 0 / ret 1 0 0 0")
	wantCode(t, "b0: / if s0 b1 b1 / b1: / ret s1", "ld 1 0 0 0 / jz 1 0 0 2 / ld 1 0 0 1 / ret 1 0 0 0")
	wantCode(t, "b0: / if s0 b2 b2 / b1: / ret s1 / b2: / ret s0", "ld 1 0 0 0 / jz 1 0 0 5 / jmp 0 0 0 5 / ld 1 0 0 1 / ret 1 0 0 0 / ld 1 0 0 0 / ret 1 0 0 0")
	wantCode(t, "b0: / if s0 b0 b0", "ld 1 0 0 0 / jz 1 0 0 0 / jmp 0 0 0 0")
	wantCode(t, "b0: / if s0 b1 b0 / b1: / if s1 b0 b1", "ld 1 0 0 0 / jz 1 0 0 0 / ld 1 0 0 1 / jz 1 0 0 2 / jmp 0 0 0 0")
	// The last block has no next one: block 0 is not behind it.
	wantCode(t, "b0: / ret s4 / b1: / go b0", "ld 1 0 0 4 / ret 1 0 0 0 / jmp 0 0 0 0")
	wantCode(t, "b0: / ret s4 / b1: / if s2 b0 b1", "ld 1 0 0 4 / ret 1 0 0 0 / ld 1 0 0 2 / jz 1 0 0 2 / jmp 0 0 0 0")
}

func TestCodeOfBlocksWithoutWords(t *testing.T) {
	// Its beginning is that of the next one; one, two and three in a row.
	wantCode(t, "b0: / if s0 b1 b2 / b1: / go b2 / b2: / ret s1", "ld 1 0 0 0 / jz 1 0 0 2 / ld 1 0 0 1 / ret 1 0 0 0")
	wantCode(t, "b0: / if s0 b2 b1 / b1: / go b2 / b2: / ret s1", "ld 1 0 0 0 / jz 1 0 0 3 / jmp 0 0 0 3 / ld 1 0 0 1 / ret 1 0 0 0")
	wantCode(t, "b0: / if s0 b2 b1 / b1: / go b2 / b2: / go b3 / b3: / ret s1", "ld 1 0 0 0 / jz 1 0 0 3 / jmp 0 0 0 3 / ld 1 0 0 1 / ret 1 0 0 0")
	wantCode(t, "b0: / go b1 / b1: / go b2 / b2: / go b3 / b3: / if s0 b1 b2", "ld 1 0 0 0 / jz 1 0 0 0 / jmp 0 0 0 0")
	// The last of them goes elsewhere: then it has a word.
	wantCode(t, "b0: / go b1 / b1: / go b2 / b2: / go b0", "jmp 0 0 0 0")
	wantCode(t, "b0: / put s0 / go b1 / b1: / go b2 / b2: / go b1", "ld 1 0 0 0 / out 1 0 0 0 / jmp 0 0 0 2")
	wantCode(t, "b0: / go b2 / b1: / go b2 / b2: / go b1", "jmp 0 0 0 1 / jmp 0 0 0 1")
	// A block goes to one behind an empty one: a jump, though the words are next.
	wantCode(t, "b0: / put s0 / go b2 / b1: / go b2 / b2: / ret s1", "ld 1 0 0 0 / out 1 0 0 0 / jmp 0 0 0 3 / ld 1 0 0 1 / ret 1 0 0 0")
	// Behind loads of what is live at first they begin, too.
	wantCodeWith(t, "b0: / go b1 / b1: / go b2 / b2: / if s0 b0 b1", "3 -1 -1 -1 -1", "ld 7 0 0 0 / mv 1 7 0 0 / jz 1 0 0 1 / jmp 0 0 0 1")
}

func TestCodeWithColors(t *testing.T) {
	const text = "b0: / s2 = s0 + s1 / r0[s0+s2] = s1 / s3 = r1[s2] / s4 = get / put s3 / ret s4"
	wantCode(t, text, "ld 1 0 0 0 / ld 2 0 0 1 / alu 3 1 2 0 / sd 3 0 0 2 / ld 1 0 0 2 / ld 2 0 0 0 / alu 1 1 2 0 / ld 3 0 0 1 / sx 3 1 0 0 / "+
		"ld 1 0 0 2 / lx 3 1 0 1 / sd 3 0 0 3 / in 1 0 0 0 / sd 1 0 0 4 / ld 1 0 0 3 / out 1 0 0 0 / ld 1 0 0 4 / ret 1 0 0 0")
	// All slots have one, and the greatest one is 11.
	wantCodeWith(t, text, "0 1 2 0 11", "ld 4 0 0 0 / ld 5 0 0 1 / mv 1 4 0 0 / mv 2 5 0 0 / alu 3 1 2 0 / mv 6 3 0 0 / mv 1 6 0 0 / mv 2 4 0 0 / alu 1 1 2 0 / mv 3 5 0 0 / sx 3 1 0 0 / "+
		"mv 1 6 0 0 / lx 3 1 0 1 / mv 4 3 0 0 / in 1 0 0 0 / mv 15 1 0 0 / mv 1 4 0 0 / out 1 0 0 0 / mv 1 15 0 0 / ret 1 0 0 0")
	// Some have one: of those that are live at first, and of the others.
	wantCodeWith(t, text, "-1 5 -1 0 -1", "ld 9 0 0 1 / ld 1 0 0 0 / mv 2 9 0 0 / alu 3 1 2 0 / sd 3 0 0 2 / ld 1 0 0 2 / ld 2 0 0 0 / alu 1 1 2 0 / mv 3 9 0 0 / sx 3 1 0 0 / "+
		"ld 1 0 0 2 / lx 3 1 0 1 / mv 4 3 0 0 / in 1 0 0 0 / sd 1 0 0 4 / mv 1 4 0 0 / out 1 0 0 0 / ld 1 0 0 4 / ret 1 0 0 0")
	// A number, and a move between two of them, of which one has none.
	wantCodeWith(t, "b0: / s2 = 6 / s3 = s2 / s4 = s3 / ret s4", "-1 -1 1 -1 2", "li 1 0 0 6 / mv 5 1 0 0 / mv 1 5 0 0 / sd 1 0 0 3 / ld 1 0 0 3 / mv 6 1 0 0 / mv 1 6 0 0 / ret 1 0 0 0")
	// A move of a slot into itself, and into another one of its color, is told like each other one.
	wantCodeWith(t, "b0: / s0 = s0 / s2 = s0 / ret s2", "0 -1 0 -1 -1", "ld 4 0 0 0 / mv 1 4 0 0 / mv 4 1 0 0 / mv 1 4 0 0 / mv 4 1 0 0 / mv 1 4 0 0 / ret 1 0 0 0")
	// A slot that is not named may have one: nothing is loaded into it.
	wantCodeWith(t, "b0: / ret s1", "0 0 0 0 0", "ld 4 0 0 1 / mv 1 4 0 0 / ret 1 0 0 0")
}

func TestCodeWithSlotsThatAreLiveAtFirst(t *testing.T) {
	// In order of the slots, not of the colors; one without a color is not loaded.
	wantCodeWith(t, "b0: / put s4 / put s1 / put s3 / ret s0", "2 0 -1 -1 1", "ld 6 0 0 0 / ld 4 0 0 1 / ld 5 0 0 4 / mv 1 5 0 0 / out 1 0 0 0 / mv 1 4 0 0 / out 1 0 0 0 / ld 1 0 0 3 / out 1 0 0 0 / mv 1 6 0 0 / ret 1 0 0 0")
	// A parameter that is made ahead of its use is not loaded.
	wantCodeWith(t, "b0: / s0 = get / put s0 / ret s1", "0 1 -1 -1 -1", "ld 5 0 0 1 / in 1 0 0 0 / mv 4 1 0 0 / mv 1 4 0 0 / out 1 0 0 0 / mv 1 5 0 0 / ret 1 0 0 0")
	// Block 0 is gone to: by itself, by another one, by an OpJz and by an OpJmp; it begins behind the loads.
	wantCodeWith(t, "b0: / s0 = s0 - s1 / if s0 b0 b1 / b1: / ret s1", "0 1 -1 -1 -1",
		"ld 4 0 0 0 / ld 5 0 0 1 / mv 1 4 0 0 / mv 2 5 0 0 / alu 3 1 2 1 / mv 4 3 0 0 / mv 1 4 0 0 / jz 1 0 0 9 / jmp 0 0 0 2 / mv 1 5 0 0 / ret 1 0 0 0")
	wantCodeWith(t, "b0: / s0 = s0 - s1 / if s0 b1 b0 / b1: / go b0", "0 1 -1 -1 -1",
		"ld 4 0 0 0 / ld 5 0 0 1 / mv 1 4 0 0 / mv 2 5 0 0 / alu 3 1 2 1 / mv 4 3 0 0 / mv 1 4 0 0 / jz 1 0 0 2 / jmp 0 0 0 2")
	wantCodeWith(t, "b0: / go b0", "0 1 2 3 4", "jmp 0 0 0 0")
	// Live at first because of the way back alone: slot 4, which is 0 then.
	wantCodeWith(t, "b0: / put s4 / if s0 b1 b2 / b1: / s4 = 5 / s0 = get / go b0 / b2: / ret s1", "0 1 -1 -1 2",
		"ld 4 0 0 0 / ld 5 0 0 1 / ld 6 0 0 4 / mv 1 6 0 0 / out 1 0 0 0 / mv 1 4 0 0 / jz 1 0 0 12 / li 1 0 0 5 / mv 6 1 0 0 / in 1 0 0 0 / mv 4 1 0 0 / jmp 0 0 0 3 / mv 1 5 0 0 / ret 1 0 0 0")
	// The same without a color: it is loaded where it is used.
	wantCodeWith(t, "b0: / put s4 / if s0 b1 b2 / b1: / s4 = 5 / s0 = get / go b0 / b2: / ret s1", "0 1 -1 -1 -1",
		"ld 4 0 0 0 / ld 5 0 0 1 / ld 1 0 0 4 / out 1 0 0 0 / mv 1 4 0 0 / jz 1 0 0 11 / li 1 0 0 5 / sd 1 0 0 4 / in 1 0 0 0 / mv 4 1 0 0 / jmp 0 0 0 2 / mv 1 5 0 0 / ret 1 0 0 0")
}

func TestCodeHasTheFrameOfItsGraph(t *testing.T) {
	g := impl.Graph{Sizes: []int{7, 16, 1}, Params: 2, Vars: 3, Slots: 9, Blocks: []impl.Block{{Jump: impl.JmRet, A: 8}}}
	for _, m := range []impl.Image{impl.Code(g), impl.CodeWith(g, impl.Colors(g, 12)), impl.Peep(impl.Code(g))} {
		if rowsText([][]int{m.Sizes}) != "7 16 1" || m.Params != 2 || m.Slots != 9 || !impl.ImageOk(m) {
			t.Errorf("%+v", m)
		}
	}
	// A graph without slots, and one that is as small as can be.
	least := impl.Graph{Sizes: []int{1}, Blocks: bare(1)}
	if m := impl.Code(least); plain(m) != "{Sizes:[1] Params:0 Slots:0 Code:[{Op:8 R:0 A:0 B:0 N:0}]}" || !impl.SameImage(m, impl.CodeWith(least, nil)) {
		t.Errorf("%+v", m)
	}
}

// imageOf reads the words of an image with regions of 4 and of 2 places, 2 parameters and 5 slots; a stroke stands between two words.
func imageOf(t *testing.T, text string) impl.Image {
	t.Helper()
	m := impl.Image{Sizes: []int{4, 2}, Params: 2, Slots: 5}
	for _, line := range strings.Split(text, " / ") {
		w, name := impl.Word{}, ""
		fmt.Sscanf(line, "%s %d %d %d %d", &name, &w.R, &w.A, &w.B, &w.N)
		w.Op = slices.Index(opWords, name)
		m.Code = append(m.Code, w)
	}
	if got := wordLines(m); got != text {
		t.Fatalf("%q is read as %q", text, got)
	}
	return m
}

func wantPeep(t *testing.T, text string, want string) {
	t.Helper()
	m := imageOf(t, text)
	if got := wordLines(impl.Peep(m)); got != want {
		t.Errorf("Peep of\n%s\nis\n%s\nwant\n%s", text, got, want)
	}
	for _, args := range [][]int{{0, 0}, {3, 1}, {-2, 5}} {
		wantSamePeeped(t, text, m, args, []int{4, 7})
	}
}

func TestPeep(t *testing.T) {
	// The same register and slot.
	wantPeep(t, "in 1 0 0 0 / sd 1 0 0 2 / ld 1 0 0 2 / ret 1 0 0 0", "in 1 0 0 0 / sd 1 0 0 2 / ret 1 0 0 0")
	wantPeep(t, "in 15 0 0 0 / sd 15 0 0 0 / ld 15 0 0 0 / ret 15 0 0 0", "in 15 0 0 0 / sd 15 0 0 0 / ret 15 0 0 0")
	// Another register, another slot, both.
	for _, load := range []string{"ld 2 0 0 2", "ld 1 0 0 3", "ld 3 0 0 4", "ld 0 0 0 2", "ld 1 0 0 0"} {
		text := "in 1 0 0 0 / sd 1 0 0 2 / " + load + " / ret 1 0 0 0"
		wantPeep(t, text, text)
	}
	// The other way around, something between, and none ahead.
	for _, text := range []string{
		"ld 1 0 0 2 / sd 1 0 0 2 / ret 1 0 0 0", "ld 1 0 0 2 / ret 1 0 0 0", "sd 1 0 0 2 / sd 1 0 0 2 / ret 1 0 0 0", "ld 1 0 0 2 / ld 1 0 0 2 / ret 1 0 0 0",
		"sd 1 0 0 2 / out 1 0 0 0 / ld 1 0 0 2 / ret 1 0 0 0", "sd 1 0 0 2 / mv 1 1 0 0 / ret 1 0 0 0", "mv 1 2 0 0 / ld 1 0 0 2 / ret 1 0 0 0", "li 1 0 0 2 / ld 1 0 0 2 / ret 1 0 0 0",
		"sd 1 0 0 2 / jmp 0 0 0 2 / ld 1 0 0 2 / ret 1 0 0 0", "sd 1 0 0 2 / sd 1 0 0 3 / ld 1 0 0 2 / ret 1 0 0 0",
	} {
		wantPeep(t, text, text)
	}
	// Two in a row behind one store: just ahead of the second one stands a load.
	wantPeep(t, "sd 1 0 0 2 / ld 1 0 0 2 / ld 1 0 0 2 / ret 1 0 0 0", "sd 1 0 0 2 / ld 1 0 0 2 / ret 1 0 0 0")
	wantPeep(t, "sd 1 0 0 2 / ld 1 0 0 2 / ld 1 0 0 2 / ld 1 0 0 2 / ret 1 0 0 0", "sd 1 0 0 2 / ld 1 0 0 2 / ld 1 0 0 2 / ret 1 0 0 0")
	// Two stores of one register, with a load behind each.
	wantPeep(t, "sd 1 0 0 2 / ld 1 0 0 2 / sd 1 0 0 3 / ld 1 0 0 3 / ret 1 0 0 0", "sd 1 0 0 2 / sd 1 0 0 3 / ret 1 0 0 0")
	wantPeep(t, "sd 1 0 0 2 / ld 2 0 0 2 / ld 1 0 0 2 / ret 1 0 0 0", "sd 1 0 0 2 / ld 2 0 0 2 / ld 1 0 0 2 / ret 1 0 0 0")
	// All that is left is one word more than the loads that are gone.
	wantPeep(t, strings.Repeat("sd 1 0 0 2 / ld 1 0 0 2 / ", 5)+"ret 1 0 0 0", strings.Repeat("sd 1 0 0 2 / ", 5)+"ret 1 0 0 0")
}

func TestPeepOfLoadsThatAreGoneTo(t *testing.T) {
	// By an OpJmp, and by an OpJz, from behind and from ahead, and from a word that one does not come to.
	for _, text := range []string{
		"in 1 0 0 0 / sd 1 0 0 2 / ld 1 0 0 2 / jz 1 0 0 5 / jmp 0 0 0 2 / ret 1 0 0 0",
		"in 1 0 0 0 / sd 1 0 0 2 / ld 1 0 0 2 / in 1 0 0 0 / jz 1 0 0 2 / ret 1 0 0 0",
		"jmp 0 0 0 3 / in 1 0 0 0 / sd 1 0 0 2 / ld 1 0 0 2 / ret 1 0 0 0",
		"jz 0 0 0 3 / in 1 0 0 0 / sd 1 0 0 2 / ld 1 0 0 2 / ret 1 0 0 0",
		"sd 1 0 0 2 / ld 1 0 0 2 / ret 1 0 0 0 / jmp 0 0 0 1",
		"sd 1 0 0 2 / ld 1 0 0 2 / ret 1 0 0 0 / jz 4 0 0 1 / ret 1 0 0 0",
	} {
		wantPeep(t, text, text)
	}
	// A number of another word that would be the load is no jump to it.
	wantPeep(t, "li 5 0 0 2 / sd 1 0 0 2 / ld 1 0 0 2 / ld 3 0 0 2 / ret 1 0 0 0", "li 5 0 0 2 / sd 1 0 0 2 / ld 3 0 0 2 / ret 1 0 0 0")
	// The store itself is gone to: the load goes.
	wantPeep(t, "in 1 0 0 0 / sd 1 0 0 2 / ld 1 0 0 2 / jz 1 0 0 1 / jmp 0 0 0 1", "in 1 0 0 0 / sd 1 0 0 2 / jz 1 0 0 1 / jmp 0 0 0 1")
	// Of two loads one is gone to.
	wantPeep(t, "sd 1 0 0 2 / ld 1 0 0 2 / sd 2 0 0 3 / ld 2 0 0 3 / jmp 0 0 0 3", "sd 1 0 0 2 / sd 2 0 0 3 / ld 2 0 0 3 / jmp 0 0 0 2")
	wantPeep(t, "sd 1 0 0 2 / ld 1 0 0 2 / sd 2 0 0 3 / ld 2 0 0 3 / jmp 0 0 0 1", "sd 1 0 0 2 / ld 1 0 0 2 / sd 2 0 0 3 / jmp 0 0 0 1")
	// Of two in a row: the first one, and the second one.
	wantPeep(t, "sd 1 0 0 2 / ld 1 0 0 2 / ld 1 0 0 2 / jmp 0 0 0 1", "sd 1 0 0 2 / ld 1 0 0 2 / ld 1 0 0 2 / jmp 0 0 0 1")
	wantPeep(t, "sd 1 0 0 2 / ld 1 0 0 2 / ld 1 0 0 2 / jmp 0 0 0 2", "sd 1 0 0 2 / ld 1 0 0 2 / jmp 0 0 0 1")
}

func TestPeepTellsJumpsAnew(t *testing.T) {
	// To a word ahead of one that is left out, to the word just behind it, and further behind.
	wantPeep(t, "in 1 0 0 0 / sd 1 0 0 2 / ld 1 0 0 2 / out 1 0 0 0 / jz 1 0 0 0 / ret 1 0 0 0", "in 1 0 0 0 / sd 1 0 0 2 / out 1 0 0 0 / jz 1 0 0 0 / ret 1 0 0 0")
	wantPeep(t, "in 1 0 0 0 / sd 1 0 0 2 / ld 1 0 0 2 / in 1 0 0 0 / jz 1 0 0 3 / ret 1 0 0 0", "in 1 0 0 0 / sd 1 0 0 2 / in 1 0 0 0 / jz 1 0 0 2 / ret 1 0 0 0")
	wantPeep(t, "in 1 0 0 0 / sd 1 0 0 2 / ld 1 0 0 2 / jz 1 0 0 5 / jmp 0 0 0 6 / out 1 0 0 0 / ret 1 0 0 0", "in 1 0 0 0 / sd 1 0 0 2 / jz 1 0 0 4 / jmp 0 0 0 5 / out 1 0 0 0 / ret 1 0 0 0")
	// A jump over two that are left out, and one between these.
	wantPeep(t, "jz 0 0 0 6 / sd 1 0 0 2 / ld 1 0 0 2 / jmp 0 0 0 4 / sd 1 0 0 3 / ld 1 0 0 3 / ret 1 0 0 0", "jz 0 0 0 4 / sd 1 0 0 2 / jmp 0 0 0 3 / sd 1 0 0 3 / ret 1 0 0 0")
	// To itself.
	wantPeep(t, "sd 1 0 0 2 / ld 1 0 0 2 / jz 5 0 0 2 / jmp 0 0 0 3", "sd 1 0 0 2 / jz 5 0 0 1 / jmp 0 0 0 2")
	// What is no jump keeps its number.
	wantPeep(t, "sd 1 0 0 2 / ld 1 0 0 2 / li 1 0 0 4 / ld 1 0 0 4 / alu 1 1 1 4 / lx 1 1 0 1 / ret 1 0 0 0", "sd 1 0 0 2 / li 1 0 0 4 / ld 1 0 0 4 / alu 1 1 1 4 / lx 1 1 0 1 / ret 1 0 0 0")
}

func TestPeepOfCode(t *testing.T) {
	// A graph with a choice and a loop: what a block leaves in a register is gone where the next one is gone to.
	g := graphOf(t, 2, 5, "b0: / s2 = s0 / if s2 b1 b2 / b1: / s0 = s0 - s1 / go b0 / b2: / s3 = get / ret s3")
	if got := wordLines(impl.Peep(impl.Code(g))); got != "ld 1 0 0 0 / sd 1 0 0 2 / jz 1 0 0 8 / ld 1 0 0 0 / ld 2 0 0 1 / alu 3 1 2 1 / sd 3 0 0 0 / jmp 0 0 0 0 / in 1 0 0 0 / sd 1 0 0 3 / ret 1 0 0 0" {
		t.Errorf("told as\n%s", got)
	}
	// A block that begins with a load of what the one ahead of it has stored last: it is gone to by another one, and by none.
	g = graphOf(t, 2, 5, "b0: / s2 = get / go b1 / b1: / put s2 / if s0 b1 b2 / b2: / ret s1")
	if got := wordLines(impl.Peep(impl.Code(g))); got != "in 1 0 0 0 / sd 1 0 0 2 / ld 1 0 0 2 / out 1 0 0 0 / ld 1 0 0 0 / jz 1 0 0 7 / jmp 0 0 0 2 / ld 1 0 0 1 / ret 1 0 0 0" {
		t.Errorf("told as\n%s", got)
	}
	g = graphOf(t, 2, 5, "b0: / s2 = get / go b1 / b1: / put s2 / ret s1")
	if got := wordLines(impl.Peep(impl.Code(g))); got != "in 1 0 0 0 / sd 1 0 0 2 / out 1 0 0 0 / ld 1 0 0 1 / ret 1 0 0 0" {
		t.Errorf("told as\n%s", got)
	}
	// A slot in a register: there is no store, and the load stays a move.
	m := impl.CodeWith(g, impl.Colors(g, 12))
	if p := impl.Peep(m); !impl.SameImage(m, p) || wordLines(p) != "ld 4 0 0 1 / in 1 0 0 0 / mv 5 1 0 0 / mv 1 5 0 0 / out 1 0 0 0 / mv 1 4 0 0 / ret 1 0 0 0" {
		t.Errorf("told as\n%s", wordLines(p))
	}
}

// wantToldCode holds the code of a graph that is GraphOk, with colors that are ColorsOk, against what is told a second time, and is what promise 13 has of it. It tells how many words Peep leaves out.
func wantToldCode(t *testing.T, name string, g impl.Graph, colors []int) int {
	t.Helper()
	m := impl.CodeWith(g, colors)
	if got, want := impl.ShowCode(m), codeToldAgain(g, colors); got != want || wordsText(m.Code) != want {
		t.Fatalf("%s: the code of\n%swith %v is\n%s\nwant\n%s", name, graphText(g), colors, got, want)
	}
	if !impl.ImageOk(m) || !slices.Equal(m.Sizes, g.Sizes) || m.Params != g.Params || m.Slots != g.Slots {
		t.Fatalf("%s: the code of\n%sis not right: %+v", name, graphText(g), m)
	}
	return wantToldImage(t, name, m)
}

// wantToldImage holds what is told of an image that is ImageOk against what is told a second time. It tells how many words Peep leaves out.
func wantToldImage(t *testing.T, name string, m impl.Image) int {
	t.Helper()
	p := impl.Peep(m)
	if got, want := impl.ShowCode(p), peepToldAgain(m); got != want {
		t.Fatalf("%s: Peep of\n%sis\n%s\nwant\n%s", name, impl.ShowCode(m), got, want)
	}
	if !impl.ImageOk(p) || len(p.Code) > len(m.Code) || !slices.Equal(p.Sizes, m.Sizes) || p.Params != m.Params || p.Slots != m.Slots {
		t.Fatalf("%s: Peep of\n%sis not right, or longer: %+v", name, impl.ShowCode(m), p)
	}
	wantList(t, name+": Aims", impl.Aims(m), aimsOf(m)...)
	wantList(t, name+": Dead", impl.Dead(m), deadOf(m)...)
	counts := [12]int{}
	for _, w := range m.Code {
		counts[w.Op]++
	}
	for op, want := range counts {
		if got := impl.CountOp(m, op); got != want {
			t.Fatalf("%s: CountOp of %d is %d; want %d", name, op, got, want)
		}
	}
	gone := len(m.Code) - len(p.Code)
	if loads := impl.CountOp(p, impl.OpLd); loads != counts[impl.OpLd]-gone || impl.SameImage(m, p) != (gone == 0) {
		t.Fatalf("%s: Peep leaves out %d words, and has %d loads of %d", name, gone, loads, counts[impl.OpLd])
	}
	return gone
}

// wantSameCoded tells that the code of a graph does what the graph does. It tells how the graph ends.
func wantSameCoded(t *testing.T, name string, g impl.Graph, colors []int, args []int, input []int) int {
	t.Helper()
	const fuel = 150
	want := impl.Walk(g, args, input, fuel)
	m := impl.CodeWith(g, colors)
	// No step has more than 5 words, no Jump more than 3, and at most 12 slots are loaded first.
	got := ranCode(m, args, input, 5*fuel+12).withFuel(5*fuel + 12)
	if !impl.SameEnd(got, want) && !(want.Code == impl.EndFuel && impl.Prefix(want.Out, got.Out)) {
		t.Fatalf("%s: with %v / %v\n%sends %+v; its code with %v %+v", name, args, input, graphText(g), want, colors, got)
	}
	wantSamePeeped(t, name, m, args, input)
	return want.Code
}

// wantSamePeeped tells that an image that is ImageOk does the same behind Peep, and takes no more.
func wantSamePeeped(t *testing.T, name string, m impl.Image, args []int, input []int) {
	t.Helper()
	const fuel = 600
	own, peeped := ranCode(m, args, input, fuel), ranCode(impl.Peep(m), args, input, fuel)
	want, got := own.withFuel(fuel), peeped.withFuel(fuel)
	if !impl.SameEnd(got, want) && !(want.Code == impl.EndFuel && impl.Prefix(want.Out, got.Out)) || len(peeped.ahead) > len(own.ahead) {
		t.Fatalf("%s: with %v / %v\n%sends %+v; behind Peep %+v", name, args, input, impl.ShowCode(m), want, got)
	}
}

func TestCodeOfMadeGraphsIsRight(t *testing.T) {
	t.Parallel()
	empty, gone, ends := 0, 0, map[int]int{}
	for kind, make := range []func(seed int64) (impl.Graph, []int, []int){colorGraph, valueGraph, factGraph, memoryGraph, madeGraph, madeGraph, madeGraph} {
		for seed := range int64(seeds / 20) {
			g, args, input := make(seed + int64(kind)*seeds)
			name := fmt.Sprint("kind ", kind, " seed ", seed)
			if !impl.SameImage(impl.Code(g), impl.CodeWith(g, noColors(g))) {
				t.Fatalf("%s: Code is not that without colors of\n%s", name, graphText(g))
			}
			for _, colors := range [][]int{noColors(g), impl.Colors(g, 12), impl.Colors(g, int(seed%5))} {
				gone += wantToldCode(t, name, g, colors)
				ends[wantSameCoded(t, name, g, colors, args, input)]++
			}
			for at, b := range g.Blocks {
				if len(b.Code) == 0 && b.Jump == impl.JmGo && b.To == at+1 {
					empty++
				}
			}
		}
	}
	if empty < seeds/100 || gone < seeds || ends[impl.EndDone] < seeds/10 || ends[impl.EndTrap] < seeds/10 {
		t.Errorf("only %d blocks are empty, %d words are left out; ends %v", empty, gone, ends)
	}
}

func TestCodeOfAllShapesIsRight(t *testing.T) {
	for blocks := 1; blocks <= 3; blocks++ {
		shapes(blocks, func(g impl.Graph) {
			for _, colors := range [][]int{{-1}, {0}} {
				wantToldCode(t, "shape", g, colors)
			}
		})
	}
	// Of three blocks, with a step in some: those without one may have no word.
	step := []impl.Instr{{D: 1, N: 3}}
	at := 0
	shapes(3, func(g impl.Graph) {
		at++
		if at%5 > 0 {
			return
		}
		g.Slots = 2
		for some := range 8 {
			for i := range g.Blocks {
				g.Blocks[i].Code = step[:some>>i&1]
			}
			wantToldCode(t, "shape with steps", g, []int{-1, -1})
		}
	})
}

func TestCodeOfMadeProgramsIsRight(t *testing.T) {
	t.Parallel()
	gone, words := 0, 0
	for seed := range int64(seeds / 60) {
		for _, text := range []string{factProgram(seed), memoryProgram(seed)} {
			g := impl.Lower(parsed(t, text))
			if !impl.GraphOk(g) {
				continue
			}
			for _, h := range []impl.Graph{g, impl.Optimize(g, 1), impl.Optimize(g, 2), impl.Better(g)} {
				for _, colors := range [][]int{noColors(h), impl.Colors(h, 12), impl.Colors(h, 3)} {
					gone += wantToldCode(t, text, h, colors)
					words += len(impl.CodeWith(h, colors).Code)
					wantSameCoded(t, text, h, colors, []int{2, int(seed % 5)}, []int{int(seed % 3), 1, 0, 2})
				}
			}
		}
	}
	for seed := range int64(seeds / 20) {
		p, args, input := start(seed)
		if g := impl.Lower(p); impl.GraphOk(g) {
			name := fmt.Sprint("program ", seed)
			for _, colors := range [][]int{noColors(g), impl.Colors(g, 12)} {
				gone += wantToldCode(t, name, g, colors)
				wantSameCoded(t, name, g, colors, args, input)
			}
		}
	}
	if gone < seeds || words < 10*seeds {
		t.Errorf("only %d words, of which %d are left out", words, gone)
	}
}

func TestWhatIsToldOfMadeImages(t *testing.T) {
	t.Parallel()
	gone, dead, kept, ends := 0, 0, 0, map[int]int{}
	for seed := range int64(seeds) {
		m, args, input := madeImage(seed)
		name := fmt.Sprint("seed ", seed)
		if !impl.ImageOk(m) || impl.ShowCode(m) != wordsText(m.Code) {
			t.Fatalf("%s: %+v is not right", name, m)
		}
		gone += wantToldImage(t, name, m)
		wantSamePeeped(t, name, m, args, input)
		dead += len(impl.Dead(m))
		ends[ranCode(m, args, input, 600).end.Code]++
		for i := range m.Code[1:] {
			load := m.Code[i]
			load.Op = impl.OpLd
			if m.Code[i].Op == impl.OpSd && m.Code[i+1] == load && slices.Contains(impl.Aims(m), i+1) {
				kept++
			}
		}
	}
	if gone < seeds || dead < seeds || kept < seeds/20 || len(ends) != 3 {
		t.Errorf("only %d words left out, %d not come to, %d kept since a jump goes there; ends %v", gone, dead, kept, ends)
	}
}

func wantImageOk(t *testing.T, name string, m impl.Image, want bool) {
	t.Helper()
	if !want {
		wantWrongImage(t, name, m)
		return
	}
	if !impl.ImageOk(m) || impl.ShowCode(m) != wordsText(m.Code) {
		t.Errorf("%s: %.300s is not ImageOk, or shown as %.80q", name, plain(m), impl.ShowCode(m))
	}
}

// wantWrongImage tells of an image that is not ImageOk.
func wantWrongImage(t *testing.T, name string, m impl.Image) {
	t.Helper()
	if impl.ImageOk(m) || impl.ShowCode(m) != "" {
		t.Errorf("%s: %.300s is ImageOk, or shown as %.80q", name, plain(m), impl.ShowCode(m))
	}
	wantList(t, name+": Aims", impl.Aims(m))
	wantList(t, name+": Dead", impl.Dead(m))
	if p := impl.Peep(m); plain(p) != plain(m) || !impl.SameImage(p, m) {
		t.Errorf("%s: Peep of %.300s is %.300s", name, plain(m), plain(p))
	}
}

// wholeImage has each Op, with the last slot, region, sign and word; each call makes it anew.
func wholeImage() impl.Image {
	return impl.Image{Sizes: []int{4, 2}, Params: 1, Slots: 3, Code: []impl.Word{
		{Op: impl.OpLi, R: 15, N: -9}, {Op: impl.OpSd, R: 15, N: 2}, {Op: impl.OpLd, R: 15, N: 2}, {Op: impl.OpAlu, R: 1, A: 15, B: 15, N: 5},
		{Op: impl.OpLx, R: 2, A: 1, N: 1}, {Op: impl.OpSx, R: 2, A: 15, N: 0}, {Op: impl.OpIn, R: 3}, {Op: impl.OpOut, R: 15},
		{Op: impl.OpMv, R: 15, A: 3}, {Op: impl.OpJz, R: 3, N: 11}, {Op: impl.OpJmp, N: 0}, {Op: impl.OpRet, R: 15},
	}}
}

// manyWords are that many, the last one an OpRet.
func manyWords(n int) []impl.Word {
	return append(make([]impl.Word, n-1), impl.Word{Op: impl.OpRet})
}

func TestImageOkOfOneChange(t *testing.T) {
	wantImageOk(t, "the image to be changed", wholeImage(), true)
	for name, change := range map[string]func(m *impl.Image){
		"one region":          func(m *impl.Image) { m.Sizes = []int{1}; m.Code[4].N = 0 },
		"four regions":        func(m *impl.Image) { m.Sizes = []int{1, 16, 1, 16} },
		"no parameter":        func(m *impl.Image) { m.Params = 0 },
		"slots as parameters": func(m *impl.Image) { m.Params = 3 },
		"six parameters":      func(m *impl.Image) { m.Params, m.Slots = 6, 6 },
		"no slot": func(m *impl.Image) {
			m.Params, m.Slots, m.Code = 0, 0, m.Code[3:4:4]
			m.Code = append(m.Code, manyWords(1)...)
		},
		"most slots":             func(m *impl.Image) { m.Slots = impl.MaxSlots; m.Code[1].N = impl.MaxSlots - 1 },
		"one word":               func(m *impl.Image) { m.Code = manyWords(1) },
		"a jump alone":           func(m *impl.Image) { m.Code = []impl.Word{{Op: impl.OpJmp}} },
		"most words":             func(m *impl.Image) { m.Code = manyWords(6000) },
		"the last of most words": func(m *impl.Image) { m.Code = manyWords(6000); m.Code[7] = impl.Word{Op: impl.OpJz, N: 5999} },
		"an OpJmp at the end":    func(m *impl.Image) { m.Code = append(m.Code, impl.Word{Op: impl.OpJmp, N: 12}) },
		"any number":             func(m *impl.Image) { m.Code[0].N = math.MinInt },
		"greatest number":        func(m *impl.Image) { m.Code[0].N = math.MaxInt },
		"a jump to the next":     func(m *impl.Image) { m.Code[9].N = 10 },
	} {
		m := wholeImage()
		change(&m)
		wantImageOk(t, name, m, true)
	}
	for name, m := range wrongImages() {
		wantImageOk(t, name, m, false)
	}
}

// wrongImages are images that are not ImageOk, each for one reason; each call makes them anew.
func wrongImages() map[string]impl.Image {
	changes := map[string]func(m *impl.Image){
		"the zero value":         func(m *impl.Image) { *m = impl.Image{} },
		"no region":              func(m *impl.Image) { m.Sizes = nil; m.Code = manyWords(3) },
		"five regions":           func(m *impl.Image) { m.Sizes = []int{1, 1, 1, 1, 1} },
		"size 0":                 func(m *impl.Image) { m.Sizes[1] = 0 },
		"size 17":                func(m *impl.Image) { m.Sizes[0] = 17 },
		"size below 0":           func(m *impl.Image) { m.Sizes[0] = -1 },
		"parameters below 0":     func(m *impl.Image) { m.Params = -1 },
		"seven parameters":       func(m *impl.Image) { m.Params, m.Slots = 7, 7 },
		"one slot less":          func(m *impl.Image) { m.Params = 4 },
		"slots below 0":          func(m *impl.Image) { m.Params, m.Slots, m.Code = 0, -1, manyWords(1) },
		"both below 0":           func(m *impl.Image) { m.Params, m.Slots, m.Code = -1, -1, manyWords(1) },
		"one slot more":          func(m *impl.Image) { m.Slots = impl.MaxSlots + 1 },
		"far more":               func(m *impl.Image) { m.Slots = math.MaxInt },
		"no word":                func(m *impl.Image) { m.Code = nil },
		"an empty list":          func(m *impl.Image) { m.Code = []impl.Word{} },
		"one word more":          func(m *impl.Image) { m.Code = manyWords(6001) },
		"far more words":         func(m *impl.Image) { m.Code = manyWords(50000) },
		"a region gone":          func(m *impl.Image) { m.Sizes = m.Sizes[:1] },
		"a word gone":            func(m *impl.Image) { m.Code = m.Code[:11] },
		"a word behind the last": func(m *impl.Image) { m.Code[9].N = 12 },
		"an OpJmp behind it":     func(m *impl.Image) { m.Code[10].N = 12 },
		"a word below 0":         func(m *impl.Image) { m.Code[10].N = -1 },
		"a slot behind the last": func(m *impl.Image) { m.Code[1].N = 3 },
		"an OpLd of no slot":     func(m *impl.Image) { m.Code[2].N = 3 },
		"an OpLd below 0":        func(m *impl.Image) { m.Code[2].N = -1 },
		"register 16":            func(m *impl.Image) { m.Code[0].R = 16 },
		"register 16 as A":       func(m *impl.Image) { m.Code[8].A = 16 },
		"register 16 as B":       func(m *impl.Image) { m.Code[3].B = 16 },
		"register 16 at the end": func(m *impl.Image) { m.Code[11].R = 16 },
		"a register below 0":     func(m *impl.Image) { m.Code[6].R = -1 },
		"a sign behind the last": func(m *impl.Image) { m.Code[3].N = 6 },
		"a sign below 0":         func(m *impl.Image) { m.Code[3].N = -1 },
		"an Op that is none":     func(m *impl.Image) { m.Code[0] = impl.Word{Op: 12} },
		"an Op below 0":          func(m *impl.Image) { m.Code[0] = impl.Word{Op: -1} },
		"the last Op is none":    func(m *impl.Image) { m.Code[11] = impl.Word{Op: 12} },
		"an OpJmp with R":        func(m *impl.Image) { m.Code[10].R = 1 },
		"an OpRet with N":        func(m *impl.Image) { m.Code[11].N = 1 },
		"an OpMv with N":         func(m *impl.Image) { m.Code[8].N = 1 },
		"an OpLi with A":         func(m *impl.Image) { m.Code[0].A = 1 },
		"an OpLx with B":         func(m *impl.Image) { m.Code[4].B = 1 },
		"wrong behind the OpRet": func(m *impl.Image) {
			m.Code = append(m.Code, impl.Word{Op: impl.OpLd, N: 3}, impl.Word{Op: impl.OpRet})
		},
		"a load that could go":    func(m *impl.Image) { m.Slots = impl.MaxSlots + 1; m.Code[2].N, m.Code[1].N = 1, 1 },
		"ends, but not as one":    func(m *impl.Image) { m.Code = append(m.Code, impl.Word{Op: impl.OpJz}) },
		"ends with a number":      func(m *impl.Image) { m.Code = append(m.Code, impl.Word{}) },
		"a number alone":          func(m *impl.Image) { m.Code = make([]impl.Word, 1) },
		"ends with a put":         func(m *impl.Image) { m.Code = append(m.Code, impl.Word{Op: impl.OpOut}) },
		"as many, without an end": func(m *impl.Image) { m.Code = make([]impl.Word, 6000) },
	}
	images := map[string]impl.Image{}
	for name, change := range changes {
		m := wholeImage()
		change(&m)
		images[name] = m
	}
	return images
}

func TestImageOkOfTheLastWord(t *testing.T) {
	for op := range opWords {
		m := impl.Image{Sizes: []int{1}, Slots: 1, Code: []impl.Word{{}, {Op: op}}}
		wantImageOk(t, opWords[op], m, op == impl.OpRet || op == impl.OpJmp)
	}
}

func TestImageOkOfAllWordsOfFewNumbers(t *testing.T) {
	m := impl.Image{Sizes: []int{4, 2}, Params: 1, Slots: 3, Code: manyWords(7)}
	registers, numbers := []int{-1, 0, 1, 15, 16}, []int{math.MinInt, -1, 0, 1, 2, 3, 5, 6, 7, 16, math.MaxInt}
	rights := map[int]int{}
	for op := -1; op <= 12; op++ {
		for _, r := range registers {
			for _, a := range registers {
				for _, b := range registers {
					for _, n := range numbers {
						w := impl.Word{Op: op, R: r, A: a, B: b, N: n}
						m.Code[2] = w
						want := wordRight(m, w)
						if got := impl.ImageOk(m); got != want {
							t.Fatalf("ImageOk with %+v is %t", w, got)
						}
						if want {
							rights[op]++
						}
					}
				}
			}
		}
	}
	// How many of these numbers are slots, signs, regions and words: 3, 5, 2 and 6.
	want := map[int]int{0: 33, 1: 9, 2: 9, 3: 27 * 5, 4: 18, 5: 18, 6: 3, 7: 3, 8: 6, 9: 18, 10: 3, 11: 9}
	if plain(rights) != plain(want) {
		t.Errorf("right are %v; want %v", rights, want)
	}
}

func TestShowCode(t *testing.T) {
	want := "0: li 15 0 0 -9\n1: sd 15 0 0 2\n2: ld 15 0 0 2\n3: alu 1 15 15 5\n4: lx 2 1 0 1\n5: sx 2 15 0 0\n6: in 3 0 0 0\n7: out 15 0 0 0\n" +
		"8: mv 15 3 0 0\n9: jz 3 0 0 11\n10: jmp 0 0 0 0\n11: ret 15 0 0 0\n"
	if got := impl.ShowCode(wholeImage()); got != want {
		t.Errorf("shown as %q", got)
	}
	if got := impl.ShowCode(impl.Image{Sizes: []int{1}, Code: []impl.Word{{N: math.MinInt}, {N: math.MaxInt}, {Op: impl.OpJmp, N: 1}}}); got != "0: li 0 0 0 -9223372036854775808\n1: li 0 0 0 9223372036854775807\n2: jmp 0 0 0 1\n" {
		t.Errorf("shown as %q", got)
	}
	if got := impl.ShowCode(impl.Image{Sizes: []int{1}, Code: manyWords(6000)}); !strings.HasSuffix(got, "\n5998: li 0 0 0 0\n5999: ret 0 0 0 0\n") {
		t.Errorf("the last lines of most words are %q", got[max(0, len(got)-60):])
	}
}

func TestCountOp(t *testing.T) {
	m := wholeImage()
	for op := -2; op <= 14; op++ {
		want := 0
		if 0 <= op && op < 12 {
			want = 1
		}
		if got := impl.CountOp(m, op); got != want {
			t.Errorf("CountOp of %d is %d", op, got)
		}
	}
	// Of any image: no sentence asks for one that is ImageOk.
	wrong := impl.Image{Code: []impl.Word{{Op: 77}, {Op: impl.OpLd, R: 99}, {Op: 77, N: 3}, {Op: math.MinInt}}}
	for op, want := range map[int]int{77: 2, impl.OpLd: 1, math.MinInt: 1, math.MaxInt: 0, impl.OpLi: 0, -1: 0} {
		if got := impl.CountOp(wrong, op); got != want {
			t.Errorf("CountOp of %d is %d; want %d", op, got, want)
		}
	}
	if impl.CountOp(impl.Image{}, 0) != 0 || impl.CountOp(impl.Image{Code: manyWords(6001)}, impl.OpLi) != 6000 {
		t.Error("CountOp of none, or of many")
	}
}

func TestAimsAndDead(t *testing.T) {
	for _, c := range []struct{ text, aims, dead string }{
		{"ret 0 0 0 0", "", ""}, {"jmp 0 0 0 0", "0", ""}, {"in 1 0 0 0 / ret 1 0 0 0", "", ""},
		// Ascending, and none twice.
		{"jz 0 0 0 3 / jz 0 0 0 1 / jz 0 0 0 3 / jmp 0 0 0 1", "1 3", ""},
		// Behind a ret and behind a jmp, until something goes there.
		{"ret 0 0 0 0 / ret 0 0 0 0", "", "1"}, {"jmp 0 0 0 3 / in 0 0 0 0 / out 0 0 0 0 / ret 0 0 0 0", "3", "1 2"}, {"jmp 0 0 0 2 / ret 0 0 0 0 / jmp 0 0 0 1", "1 2", ""},
		{"jmp 0 0 0 0 / ret 0 0 0 0", "0", "1"},
		// A jz goes on behind it, whatever register it is, and to its word.
		{"jz 0 0 0 2 / ret 0 0 0 0 / ret 0 0 0 0", "2", ""}, {"jz 0 0 0 1 / ret 0 0 0 0 / ret 0 0 0 0", "1", "2"}, {"li 1 0 0 0 / jz 1 0 0 3 / ret 0 0 0 0 / ret 0 0 0 0", "3", ""},
		{"li 1 0 0 1 / jz 1 0 0 3 / ret 0 0 0 0 / ret 0 0 0 0", "3", ""},
		// Words that one does not come to go to some: these count for Aims, not for Dead.
		{"ret 0 0 0 0 / in 0 0 0 0 / jmp 0 0 0 1", "1", "1 2"}, {"ret 0 0 0 0 / jz 0 0 0 0 / jmp 0 0 0 2", "0 2", "1 2"},
		// A loop in which one stays.
		{"in 0 0 0 0 / jz 0 0 0 0 / jmp 0 0 0 0 / out 0 0 0 0 / ret 0 0 0 0", "0", "3 4"},
		// What is no jump goes nowhere by its number.
		{"li 0 0 0 4 / ld 0 0 0 4 / ret 0 0 0 0 / sd 0 0 0 3 / ret 0 0 0 0", "", "3 4"},
	} {
		m := imageOf(t, c.text)
		wantList(t, c.text+": Aims", impl.Aims(m), slotsOf(c.aims)...)
		wantList(t, c.text+": Dead", impl.Dead(m), slotsOf(c.dead)...)
		wantToldImage(t, c.text, m)
	}
	// A row of jumps over most words, back and forth, and words behind a first one that ends.
	m := impl.Image{Sizes: []int{1}, Code: make([]impl.Word, 6000)}
	for i := range m.Code {
		m.Code[i] = impl.Word{Op: impl.OpJmp, N: 5999 - i}
	}
	wantList(t, "Aims", impl.Aims(m), upTo(6000)...)
	wantList(t, "Dead", impl.Dead(m), upTo(6000)[1:5999]...)
	m.Code[0] = impl.Word{Op: impl.OpRet}
	wantList(t, "Dead behind a ret", impl.Dead(m), upTo(6000)[1:]...)
	for i := range m.Code[:5999] {
		m.Code[i] = impl.Word{Op: impl.OpJz, N: 5999 - i}
	}
	wantList(t, "Dead of OpJz", impl.Dead(m))
}

func TestSameImage(t *testing.T) {
	images := []impl.Image{wholeImage(), {}, {Sizes: []int{1}}, {Params: 1}, {Slots: 1}, {Code: make([]impl.Word, 1)}, {Code: make([]impl.Word, 2)}, {Sizes: []int{0}}, {Sizes: []int{0, 0}}}
	for _, change := range []func(m *impl.Image){
		func(m *impl.Image) { m.Sizes[0]++ },
		func(m *impl.Image) { m.Sizes[1]++ },
		func(m *impl.Image) { m.Sizes = m.Sizes[:1] },
		func(m *impl.Image) { m.Sizes = append(m.Sizes, 2) },
		func(m *impl.Image) { m.Sizes = nil },
		func(m *impl.Image) { m.Params++ },
		func(m *impl.Image) { m.Slots++ },
		func(m *impl.Image) { m.Code = m.Code[:11] },
		func(m *impl.Image) { m.Code = append(m.Code, impl.Word{}) },
		func(m *impl.Image) { m.Code = nil },
		func(m *impl.Image) { m.Code[0].Op++ },
		func(m *impl.Image) { m.Code[11].Op-- },
		func(m *impl.Image) { m.Code[3].R++ },
		func(m *impl.Image) { m.Code[3].A++ },
		func(m *impl.Image) { m.Code[3].B++ },
		func(m *impl.Image) { m.Code[3].N++ },
		func(m *impl.Image) { m.Code[11].N++ },
		func(m *impl.Image) { m.Code[0].R = math.MaxInt },
	} {
		m := wholeImage()
		change(&m)
		images = append(images, m)
	}
	for i, a := range images {
		for j, b := range images {
			if got := impl.SameImage(a, otherImage(b)); got != (i == j) {
				t.Errorf("SameImage(%s, %s) = %t", plain(a), plain(b), got)
			}
		}
	}
}

// otherImage makes a copy that shares no memory and has empty lists where there is nil.
func otherImage(m impl.Image) impl.Image {
	m.Sizes = append([]int{}, m.Sizes...)
	m.Code = append([]impl.Word{}, m.Code...)
	return m
}

// mostSteps are as many steps as a graph can have, each with as many words as one can have.
func mostSteps() impl.Graph {
	g := impl.Graph{Sizes: []int{1}, Slots: impl.MaxSlots, Blocks: bare(impl.MaxBlocks)}
	for i := range g.Blocks {
		g.Blocks[i] = impl.Block{Jump: impl.JmIf, A: i % 12, To: i, Else: impl.MaxBlocks - 1 - i}
	}
	g.Blocks[impl.MaxBlocks-1].Code = everySlot(func(slot int) impl.Instr {
		x := impl.Instr{Op: impl.InStore, A: slot % 12, B: slot % 12, C: slot % 12}
		if slot%2 == 0 {
			x.Op, x.D, x.C = impl.InLoad, slot, 0
		}
		return x
	})
	return g
}

func TestCodeOfMostOfAll(t *testing.T) {
	g := mostSteps()
	m := impl.Code(g)
	if len(m.Code) != 5*impl.MaxCode+3*impl.MaxBlocks || !impl.ImageOk(m) {
		t.Fatalf("%d words", len(m.Code))
	}
	// Twelve slots stand in registers at first: then there are twelve words more.
	for slot := 12; slot < impl.MaxSlots; slot++ {
		g.Blocks[impl.MaxBlocks-1].Code[slot].Op = impl.InStore
		g.Blocks[impl.MaxBlocks-1].Code[slot].D = 0
	}
	colors := append(upTo(12), slices.Repeat([]int{-1}, impl.MaxSlots-12)...)
	if !impl.ColorsOk(g, colors) {
		t.Fatal("the colors are not right")
	}
	m = impl.CodeWith(g, colors)
	if len(m.Code) != 5*impl.MaxCode+3*impl.MaxBlocks+12 || !impl.ImageOk(m) || !impl.SameImage(m, impl.Peep(m)) {
		t.Fatalf("%d words", len(m.Code))
	}
	if got := codeToldAgain(g, colors); got != impl.ShowCode(m) {
		t.Error("the code of most of all is told otherwise")
	}
	// Blocks without words, all of them but the last one.
	row := impl.Graph{Sizes: []int{1}, Blocks: bare(impl.MaxBlocks)}
	for i := range row.Blocks {
		row.Blocks[i].To = (i + 1) % impl.MaxBlocks
	}
	if got := wordLines(impl.Code(row)); got != "jmp 0 0 0 0" {
		t.Errorf("a row is told as %q", got)
	}
	// Half of most words is left out.
	half := impl.Image{Sizes: []int{1}, Slots: 1, Code: slices.Repeat([]impl.Word{{Op: impl.OpSd}, {Op: impl.OpLd}}, 3000)}
	half.Code[5999] = impl.Word{Op: impl.OpJmp, N: 5998}
	if p := impl.Peep(half); len(p.Code) != 3001 || impl.CountOp(p, impl.OpLd) != 0 || p.Code[3000].N != 2999 {
		t.Errorf("%d words are left, the last one %+v", len(p.Code), p.Code[len(p.Code)-1])
	}
}

// wantNoCode tells of a graph that is not GraphOk.
func wantNoCode(t *testing.T, name string, g impl.Graph) {
	t.Helper()
	if impl.GraphOk(g) {
		t.Errorf("%s: is GraphOk", name)
	}
	images := []impl.Image{impl.Code(g)}
	// Colors that would be right of any graph of so many slots.
	for _, n := range []int{0, 1, 5, max(0, min(g.Slots, impl.MaxSlots+1))} {
		images = append(images, impl.CodeWith(g, slices.Repeat([]int{-1}, n)))
	}
	for _, m := range images {
		if !impl.SameImage(m, impl.Image{}) {
			t.Errorf("%s: the code is %s", name, plain(m))
		}
	}
}

func TestCodeOfWrongGraphs(t *testing.T) {
	for name, g := range wrongGraphs() {
		wantNoCode(t, name, g)
	}
	wantNoCode(t, "the zero value", impl.Graph{})
	for _, p := range []impl.Program{withExps(20, impl.MaxSlots-20), withBlocks(impl.MaxBlocks + 1), withSteps(impl.MaxCode + 1)} {
		wantNoCode(t, "a long program", impl.Lower(p))
	}
	farGraphs(func(name string, g impl.Graph) { wantNoCode(t, name, g) })
}

func TestCodeWithWrongColors(t *testing.T) {
	// Slots 0 and 1 meet; 2 is made and wanted, and meets none.
	g := graphOf(t, 2, 5, "b0: / put s0 / put s1 / s2 = get / ret s2")
	if !impl.ImageOk(impl.CodeWith(g, []int{0, 1, 0, -1, 11})) {
		t.Fatal("right colors are refused")
	}
	for _, colors := range [][]int{
		{0, 0, 1, -1, -1}, {11, 11, -1, -1, -1}, {0, 1, 12, -1, -1}, {0, 1, 0, -1, 12}, {0, 1, -2, -1, -1}, {0, 1, math.MaxInt, 0, 0}, {math.MinInt, 1, 0, 0, 0},
		{0, 1, 0, -1}, {0, 1, 0, -1, -1, -1}, {}, nil, make([]int, 2000),
	} {
		if m := impl.CodeWith(g, colors); !impl.SameImage(m, impl.Image{}) {
			t.Errorf("with %v the code is %s", colors, plain(m))
		}
	}
}

// farImages are images of words of any Op and of any numbers.
func farImages(yield func(m impl.Image)) {
	far := []int{math.MinInt, -1, 0, 1, 5, 16, 6000, math.MaxInt}
	for _, op := range []int{math.MinInt, -1, 0, 1, 2, 3, 4, 5, 6, 7, 8, 9, 10, 11, 12, 13, math.MaxInt} {
		for i := range far {
			w := impl.Word{Op: op, R: far[i], A: far[(i+1)%8], B: far[(i+2)%8], N: far[(i+3)%8]}
			yield(impl.Image{Sizes: []int{4}, Slots: 3, Code: []impl.Word{w, w, {Op: impl.OpRet}}})
			yield(impl.Image{Sizes: far, Params: far[i], Slots: far[(i+4)%8], Code: []impl.Word{w}})
		}
	}
}

func TestWhatIsToldOfWrongImages(t *testing.T) {
	for name, m := range wrongImages() {
		wantWrongImage(t, name, m)
	}
	farImages(func(m impl.Image) {
		wantWrongImage(t, plain(m), m)
		if impl.CountOp(m, m.Code[0].Op) < 1 || !impl.SameImage(m, m) {
			t.Errorf("%s: has no Op, or is not itself", plain(m))
		}
	})
	// A load that would be left out, were the image right.
	m := imageOf(t, "sd 1 0 0 2 / ld 1 0 0 2 / ret 1 0 0 0")
	m.Sizes = nil
	wantWrongImage(t, "a load behind a store", m)
}

// someImages are right and wrong ones.
func someImages(yield func(m impl.Image)) {
	for seed := range int64(200) {
		m, _, _ := madeImage(seed)
		yield(m)
	}
	for _, m := range wrongImages() {
		if len(m.Code) < 100 {
			yield(m)
		}
	}
	farImages(yield)
}

// roomyImage makes a copy with spare room behind each list, and tells all that is in it.
func roomyImage(m impl.Image) (impl.Image, func() string) {
	m.Sizes = append(make([]int, 0, len(m.Sizes)+3), m.Sizes...)
	m.Code = append(make([]impl.Word, 0, len(m.Code)+3), m.Code...)
	return m, func() string { return plain([]any{m, m.Sizes[:cap(m.Sizes)], m.Code[:cap(m.Code)]}) }
}

func TestCodeWritesIntoNothing(t *testing.T) {
	someImages(func(m impl.Image) {
		m, tell := roomyImage(m)
		ahead := tell()
		impl.ImageOk(m)
		impl.Peep(m)
		impl.ShowCode(m)
		impl.CountOp(m, impl.OpLd)
		impl.Aims(m)
		impl.Dead(m)
		impl.SameImage(m, wholeImage())
		impl.SameImage(wholeImage(), m)
		if tell() != ahead {
			t.Fatalf("written into: %s", plain(m))
		}
	})
	colorGraphs(func(g impl.Graph) {
		g, tell := roomy(g)
		right := impl.Colors(g, 12)
		for _, colors := range [][]int{right, append(slices.Clone(right), 3), {0, 0, 0}, {}} {
			n := len(colors)
			colors = append(append(make([]int, 0, n+9), colors...), 5, 6, 7)[:n]
			all := func() string { return tell() + plain(colors[:n+9]) }
			ahead := all()
			impl.Code(g)
			impl.CodeWith(g, colors)
			if all() != ahead {
				t.Fatalf("written into: %s or %v", plain(g), colors)
			}
		}
	})
}

// spoilImage writes over all that is in an image, and into the spare room behind its lists.
func spoilImage(m impl.Image) {
	spoil(m.Sizes[:cap(m.Sizes)])
	for i := range m.Code[:cap(m.Code)] {
		m.Code[:cap(m.Code)][i] = impl.Word{Op: -7}
	}
}

func TestAnswersOfCodeAreNewMemory(t *testing.T) {
	someImages(func(m impl.Image) {
		tell := func() string { return plain([]any{m, impl.Peep(m), impl.Aims(m), impl.Dead(m)}) }
		ahead := tell()
		spoilImage(impl.Peep(m))
		spoil(impl.Aims(m))
		spoil(impl.Dead(m))
		if tell() != ahead {
			t.Fatalf("an answer shares memory with %s", plain(m))
		}
	})
	colorGraphs(func(g impl.Graph) {
		colors := impl.Colors(g, 3)
		tell := func() string { return plain([]any{g, colors, impl.Code(g), impl.CodeWith(g, colors)}) }
		ahead := tell()
		spoilImage(impl.Code(g))
		spoilImage(impl.CodeWith(g, colors))
		if tell() != ahead {
			t.Fatalf("an answer shares memory with %s", plain(g))
		}
	})
}

func TestCodeIsToldAlikeEachTime(t *testing.T) {
	for seed := range int64(100) {
		g, _, _ := colorGraph(seed)
		m, _, _ := madeImage(seed)
		tell := func() string {
			return plain([]any{impl.Code(g), impl.CodeWith(g, impl.Colors(g, 12)), impl.Peep(m), impl.Aims(m), impl.Dead(m), impl.ShowCode(m)})
		}
		want := tell()
		for range 5 {
			if got := tell(); got != want {
				t.Fatalf("of\n%sis told %s and %s", graphText(g), want, got)
			}
		}
	}
}
