package tests

import (
	"fmt"
	"math"
	"math/rand"
	"slices"
	"strings"
	"testing"

	"loop.example/g00385/impl"
)

const mostText, leastText = "9223372036854775807", "-9223372036854775808"

// blockOf reads the steps of a block, with a stroke between two; its graph has that many slots, and regions of 4 and of 2 places.
func blockOf(t *testing.T, slots int, steps string) impl.Graph {
	t.Helper()
	if steps == "" {
		return graphOf(t, 0, slots, "b0: / go b0")
	}
	return graphOf(t, 0, slots, "b0: / "+steps+" / go b0")
}

// wantPlaces tells the steps of a block the texts of their places, the slots that are known behind them, and how many new bases there are.
func wantPlaces(t *testing.T, slots int, steps string, places string, known []int, fresh int) {
	t.Helper()
	g := blockOf(t, slots, steps)
	got := []string{}
	for _, p := range impl.Places(g, 0) {
		got = append(got, placeWord(p))
		if p.I > p.J {
			t.Errorf("%q: the greater base first: %s", steps, plain(p))
		}
		if impl.PlaceText(p) != placeWord(p) {
			t.Errorf("PlaceText of %s is %q", plain(p), impl.PlaceText(p))
		}
	}
	if strings.Join(got, " ") != places {
		t.Errorf("%q: places %q; want %q", steps, got, places)
	}
	wantList(t, steps+": Known", impl.Known(g, 0), known...)
	if got := impl.Fresh(g, 0); got != fresh {
		t.Errorf("%q: Fresh is %d; want %d", steps, got, fresh)
	}
}

func TestPlacesBySlotsAtTheBeginning(t *testing.T) {
	wantPlaces(t, 3, "", "", nil, 0)
	wantPlaces(t, 0, "", "", nil, 0)
	wantPlaces(t, 3, "put s0", "-", nil, 0)
	wantPlaces(t, 3, "r0[s2] = s0", "r0[b2+0]", nil, 0)
	wantPlaces(t, 3, "s1 = r1[s0]", "r1[b0+0]", nil, 1)
	wantPlaces(t, 3, "r1[s0+s2] = s0 / r0[s2+s0] = s1", "r1[b0+b2+0] r0[b0+b2+0]", nil, 0)
	wantPlaces(t, 3, "r0[s1+s1] = s0 / put s1 / s0 = r0[s1+s1]", "r0[b1+b1+0] - r0[b1+b1+0]", nil, 1)
	wantPlaces(t, 1, "r0[s0+s0] = s0", "r0[b0+b0+0]", nil, 0)
}

func TestPlacesBehindEachStepThatMakesASlot(t *testing.T) {
	wantPlaces(t, 3, "s0 = 5 / r0[s0] = s1", "- r0[5]", []int{0}, 0)
	wantPlaces(t, 3, "s0 = -5 / r0[s1+s0] = s1 / r0[s0+s0] = s1", "- r0[b1+-5] r0[-10]", []int{0}, 0)
	wantPlaces(t, 3, "s0 = s2 / r0[s0] = s1 / r0[s0+s2] = s1", "- r0[b2+0] r0[b2+b2+0]", nil, 0)
	wantPlaces(t, 3, "s0 = 7 / s1 = s0 / s0 = s2 / r0[s1] = s1", "- - - r0[7]", []int{1}, 0)
	wantPlaces(t, 3, "s0 = get / r0[s0] = s1 / s0 = get / r0[s0+s1] = s1", "- r0[b3+0] - r0[b1+b4+0]", nil, 2)
	wantPlaces(t, 3, "s0 = r0[s1] / r0[s0] = s1 / s2 = r1[s0+s1] / r1[s2+s0] = s2", "r0[b1+0] r0[b3+0] r1[b1+b3+0] r1[b3+b4+0]", nil, 2)
	wantPlaces(t, 3, "s0 = 2 / s1 = s2 + s0 / r0[s1] = s1 / s1 = s0 + s1 / r0[s1] = s1 / s1 = s0 + s0 / r0[s1] = s1", "- - r0[b2+2] - r0[b2+4] - r0[4]", []int{0, 1}, 0)
	wantPlaces(t, 3, "s0 = 2 / s1 = s2 - s0 / r0[s1] = s1 / s1 = s1 - s0 / r0[s1] = s1 / s1 = s0 - s0 / r0[s1] = s1", "- - r0[b2+-2] - r0[b2+-4] - r0[0]", []int{0, 1}, 0)
	// A number less what nothing is known of is no base with an offset.
	wantPlaces(t, 3, "s0 = 2 / s1 = s0 - s2 / r0[s1] = s1", "- - r0[b3+0]", []int{0}, 1)
	for _, sign := range []string{"*", "&", "==", "<"} {
		wantPlaces(t, 3, "s2 = s0 "+sign+" s1 / r0[s2] = s1 / s2 = s0 "+sign+" s0 / r0[s2] = s1", "- r0[b3+0] - r0[b4+0]", nil, 2)
		wantPlaces(t, 3, "s1 = 0 / s2 = s0 "+sign+" s1 / r0[s2] = s1 / s2 = s1 "+sign+" s0 / r0[s2] = s1", "- - r0[b3+0] - r0[b4+0]", []int{1}, 2)
	}
	for sign, want := range map[string]string{"+": "9", "-": "3", "*": "18", "&": "2", "==": "0", "<": "0"} {
		wantPlaces(t, 3, "s0 = 6 / s1 = 3 / s2 = s0 "+sign+" s1 / r1[s2] = s2", "- - - r1["+want+"]", []int{0, 1, 2}, 0)
	}
	for sign, want := range map[string]string{"+": "12", "-": "0", "*": "36", "&": "6", "==": "1", "<": "0"} {
		wantPlaces(t, 1, "s0 = 6 / s0 = s0 "+sign+" s0 / r1[s0] = s0", "- - r1["+want+"]", []int{0}, 0)
	}
}

func TestTwoBasesInSumsAndDifferences(t *testing.T) {
	wantPlaces(t, 3, "s2 = s0 + s1 / r0[s2] = s0", "- r0[b3+0]", nil, 1)
	wantPlaces(t, 3, "s2 = s0 - s1 / r0[s2] = s0", "- r0[b3+0]", nil, 1)
	wantPlaces(t, 3, "s2 = s0 + s0 / r0[s2] = s0", "- r0[b3+0]", nil, 1)
	wantPlaces(t, 3, "s2 = s0 - s0 / r0[s2] = s0", "- r0[0]", []int{2}, 0)
	wantPlaces(t, 3, "s1 = 4 / s2 = s0 + s1 / s1 = s2 - s0 / r0[s1] = s0 / s1 = s0 - s2 / r0[s1] = s0 / s1 = s0 + s2 / r0[s1] = s0",
		"- - - r0[4] - r0[-4] - r0[b3+0]", nil, 1)
	// New bases, too, go away in a difference.
	wantPlaces(t, 2, "s0 = get / s1 = s0 / s0 = s0 - s1 / r1[s0] = s1", "- - - r1[0]", []int{0}, 1)
	wantPlaces(t, 2, "s0 = get / s1 = get / s0 = s0 - s1 / r1[s0] = s1", "- - - r1[b4+0]", nil, 3)
	// Two sums of the same slots are two bases.
	wantPlaces(t, 4, "s2 = s0 + s1 / s3 = s0 + s1 / r0[s2] = s0 / r0[s3] = s0 / s3 = s2 / r0[s3+s2] = s0", "- - r0[b4+0] r0[b5+0] - r0[b4+b4+0]", nil, 2)
}

func TestSlotMadeAnewBetweenTwoSteps(t *testing.T) {
	wantPlaces(t, 2, "r0[s0] = s1 / s0 = get / r0[s0] = s1", "r0[b0+0] - r0[b2+0]", nil, 1)
	wantPlaces(t, 2, "r0[s0] = s1 / s0 = s1 / r0[s0] = s1", "r0[b0+0] - r0[b1+0]", nil, 0)
	wantPlaces(t, 2, "r0[s0] = s1 / s1 = 1 / s0 = s0 + s1 / r0[s0] = s1", "r0[b0+0] - - r0[b0+1]", []int{1}, 0)
	// What a copy holds is what its slot held then.
	wantPlaces(t, 3, "s1 = s0 / s0 = 3 / r0[s1] = s0 / r0[s0] = s0 / s0 = get / r0[s1] = s0", "- - r0[b0+0] r0[3] - r0[b0+0]", nil, 1)
	wantPlaces(t, 2, "s0 = s1 / s1 = s0 / r0[s0+s1] = s0", "- - r0[b1+b1+0]", nil, 0)
	wantPlaces(t, 3, "s2 = s0 / s0 = s1 / s1 = s2 / r0[s0] = s2 / r0[s1] = s2", "- - - r0[b1+0] r0[b0+0]", nil, 0)
	// A slot that is moved into itself is what it was.
	wantPlaces(t, 2, "r0[s0] = s1 / s0 = s0 / r0[s0] = s1 / s1 = 4 / s1 = s1 / r0[s1] = s1", "r0[b0+0] - r0[b0+0] - - r0[4]", []int{1}, 0)
	// A load's own place is told by what the slot held ahead of it.
	wantPlaces(t, 1, "s0 = r0[s0] / s0 = r0[s0] / s0 = r0[s0+s0]", "r0[b0+0] r0[b1+0] r0[b2+b2+0]", nil, 3)
	wantPlaces(t, 2, "s1 = 3 / s1 = r0[s1+s0] / r0[s1] = s1", "- r0[b0+3] r0[b2+0]", nil, 1)
	// A store and a put make nothing.
	wantPlaces(t, 2, "s0 = 1 / r0[s0] = s1 / put s0 / r0[s0] = s1 / r1[s1] = s0 / r1[s1] = s0", "- r0[1] - r0[1] r1[b1+0] r1[b1+0]", []int{0}, 0)
	// A number that was known is so no more.
	wantPlaces(t, 2, "s0 = 1 / s1 = 2 / s0 = get / s1 = r0[s1]", "- - - r0[2]", nil, 2)
	wantPlaces(t, 2, "s0 = get / s0 = 1 / s1 = s0 / s1 = s1 - s0", "- - - -", []int{0, 1}, 1)
}

func TestOffsetsAround64Bits(t *testing.T) {
	most := "s1 = " + mostText + " / "
	least := "s1 = " + leastText + " / "
	wantPlaces(t, 3, most+"s2 = 1 / s1 = s1 + s2 / r0[s1] = s0", "- - - r0["+leastText+"]", []int{1, 2}, 0)
	wantPlaces(t, 3, least+"s2 = 1 / s1 = s1 - s2 / r0[s1] = s0", "- - - r0["+mostText+"]", []int{1, 2}, 0)
	wantPlaces(t, 3, most+"s0 = s0 + s1 / s0 = s0 + s1 / r0[s0] = s1 / s0 = s1 + s0 / r0[s0] = s1", "- - - r0[b0+-2] - r0[b0+9223372036854775805]", []int{1}, 0)
	wantPlaces(t, 3, least+"s0 = s0 - s1 / r0[s0] = s1 / s0 = s0 - s1 / r0[s0] = s1", "- - r0[b0+"+leastText+"] - r0[b0+0]", []int{1}, 0)
	wantPlaces(t, 3, least+"s2 = 1 / s0 = s0 - s2 / s0 = s0 + s1 / r0[s0] = s1", "- - - - r0[b0+"+mostText+"]", []int{1, 2}, 0)
	// The difference of two slots of one base: the offsets are far from each other.
	wantPlaces(t, 4, most+"s2 = s0 + s1 / s1 = 1 / s3 = s0 - s1 / s1 = s2 - s3 / r0[s1] = s0 / s1 = s3 - s2 / r0[s1] = s0", "- - - - - r0["+leastText+"] - r0["+leastText+"]", []int{1}, 0)
	// Both offsets of a place together.
	wantPlaces(t, 3, most+"r0[s1+s1] = s0", "- r0[-2]", []int{1}, 0)
	wantPlaces(t, 3, least+"r0[s1+s1] = s0", "- r0[0]", []int{1}, 0)
	wantPlaces(t, 3, most+"s2 = 1 / r0[s1+s2] = s0 / s0 = s0 + s1 / r0[s2+s0] = s1 / r0[s0+s2] = s1", "- - r0["+leastText+"] - r0[b0+"+leastText+"] r0[b0+"+leastText+"]", []int{1, 2}, 0)
	wantPlaces(t, 3, least+"s0 = s0 + s1 / s2 = s2 + s1 / r0[s2+s0] = s1", "- - - r0[b0+b2+0]", []int{1}, 0)
	wantPlaces(t, 3, most+"s0 = s0 + s1 / s2 = s2 + s1 / s2 = r0[s0+s2]", "- - - r0[b0+b2+-2]", []int{1}, 1)
	wantPlaces(t, 2, most+"s1 = s1 * s1 / r0[s1] = s0", "- - r0[1]", []int{1}, 0)
	wantPlaces(t, 2, least+"s1 = s1 * s1 / r0[s1] = s0", "- - r0[0]", []int{1}, 0)
}

func TestPlacesTellFields(t *testing.T) {
	g := blockOf(t, 3, "s0 = 9 / r1[s0] = s1 / s2 = r0[s2+s1] / r0[s2+s0] = s1 / put s2 / s1 = get / r1[s2+s1] = s0 / r1[s1+s2] = s0 / s1 = r0[s0+s0]")
	want := []impl.Place{
		{Region: -1}, {Region: 1, I: -1, J: -1, Off: 9}, {Region: 0, I: 1, J: 2}, {Region: 0, I: -1, J: 3, Off: 9},
		{Region: -1}, {Region: -1}, {Region: 1, I: 3, J: 4}, {Region: 1, I: 3, J: 4}, {Region: 0, I: -1, J: -1, Off: 18},
	}
	if got := impl.Places(g, 0); !slices.Equal(got, want) {
		t.Errorf("Places tells %s; want %s", plain(got), plain(want))
	}
	// Each block begins anew.
	g = sample()
	wants := [][]impl.Place{
		{{Region: -1}, {Region: -1}, {Region: -1}, {Region: 1, I: -1, J: -1, Off: -12}, {Region: 0, I: -1, J: 5, Off: -12}},
		{{Region: 1, I: -1, J: 3}, {Region: 0, I: 0, J: 4}, {Region: -1}, {Region: -1}},
		{},
	}
	for b, want := range wants {
		if got := impl.Places(g, b); !slices.Equal(got, want) {
			t.Errorf("Places of block %d tells %s; want %s", b, plain(got), plain(want))
		}
		wantList(t, "Known", impl.Known(g, b), [][]int{{0}, {}, {}}[b]...)
		if got := impl.Fresh(g, b); got != []int{3, 1, 0}[b] {
			t.Errorf("Fresh of block %d is %d", b, got)
		}
	}
	if got := impl.Places(withCode(1, nil), 0); len(got) != 0 {
		t.Errorf("Places of no step tells %s", plain(got))
	}
}

func TestPlacesOfPrograms(t *testing.T) {
	g := impl.Lower(parsed(t, body("ptr p in a = x; p[1] = y; p = p + 2; p[0 - 1] = 3; a[p] = get; b[a[0]] = p[y];")))
	got := []string{}
	for _, p := range impl.Places(g, 0) {
		if p.Region != -1 {
			got = append(got, impl.PlaceText(p))
		}
	}
	base := g.Slots
	if want := fmt.Sprintf("r0[b0+1] r0[b0+1] r0[b0+2] r0[0] r0[b0+b1+2] r1[b%d+0]", base+1); strings.Join(got, " ") != want {
		t.Errorf("places %q; want %q", got, want)
	}
	if got := impl.Fresh(g, 0); got != 3 {
		t.Errorf("Fresh is %d", got)
	}
}

func TestPlaceText(t *testing.T) {
	for _, c := range []struct {
		p    impl.Place
		want string
	}{
		{impl.Place{}, "r0[b0+b0+0]"},
		{impl.Place{Region: 3, I: 1, J: 2, Off: 7}, "r3[b1+b2+7]"},
		{impl.Place{Region: 3, I: 2, J: 1, Off: 7}, "r3[b2+b1+7]"},
		{impl.Place{Region: 1, I: -1, J: 2, Off: 7}, "r1[b2+7]"},
		{impl.Place{Region: 1, I: 2, J: -1, Off: 7}, "r1[b2+7]"},
		{impl.Place{Region: 1, I: -1, J: -1, Off: 7}, "r1[7]"},
		{impl.Place{Region: 1, I: -1, J: -1}, "r1[0]"},
		{impl.Place{Region: 1, I: -1, J: -1, Off: -7}, "r1[-7]"},
		{impl.Place{Region: 1, I: -1, J: 1000}, "r1[b1000+0]"},
		{impl.Place{Region: 1, I: 4, J: 4, Off: -1}, "r1[b4+b4+-1]"},
		{impl.Place{I: -1, J: -1, Off: math.MinInt}, "r0[" + leastText + "]"},
		{impl.Place{Region: math.MaxInt, I: math.MinInt, J: math.MaxInt, Off: math.MaxInt}, "r" + mostText + "[b" + leastText + "+b" + mostText + "+" + mostText + "]"},
		{impl.Place{Region: -1}, "-"},
		{impl.Place{Region: -1, I: 3, J: 4, Off: 5}, "-"},
		{impl.Place{Region: -1, I: -1, J: -1}, "-"},
		{impl.Place{Region: -2}, "r-2[b0+b0+0]"},
		{impl.Place{Region: -2, I: -1, J: -2, Off: -3}, "r-2[b-2+-3]"},
		{impl.Place{Region: math.MinInt, I: -10, J: -11}, "r" + leastText + "[b-10+b-11+0]"},
	} {
		if got := impl.PlaceText(c.p); got != c.want {
			t.Errorf("PlaceText of %s is %q; want %q", plain(c.p), got, c.want)
		}
	}
}

func TestAliasText(t *testing.T) {
	if impl.AliasNo != 0 || impl.AliasMay != 1 || impl.AliasMust != 2 {
		t.Error("the numbers of what Alias tells")
	}
	for a, want := range map[int]string{0: "no", 1: "may", 2: "must", 3: "", 4: "", -1: "", -2: "", 256: "", math.MinInt: "", math.MaxInt: ""} {
		if got := impl.AliasText(a); got != want {
			t.Errorf("AliasText of %d is %q", a, got)
		}
	}
}

func TestAliasOfAFewPlaces(t *testing.T) {
	at := func(region int, i int, j int, off int) impl.Place {
		return impl.Place{Region: region, I: i, J: j, Off: off}
	}
	for _, c := range []struct {
		a, b impl.Place
		want int
	}{
		{at(0, -1, 2, 5), at(0, -1, 2, 5), impl.AliasMust},
		{at(0, -1, 2, 5), at(0, -1, 2, 6), impl.AliasNo},
		{at(0, -1, 2, 5), at(1, -1, 2, 5), impl.AliasNo},
		{at(0, -1, 2, 5), at(1, -1, 3, 6), impl.AliasNo},
		{at(0, -1, 2, 5), at(0, -1, 3, 5), impl.AliasMay},
		{at(0, -1, 2, 5), at(0, -1, 3, 6), impl.AliasMay},
		{at(0, -1, 2, 5), at(0, 1, 2, 5), impl.AliasMay},
		{at(0, -1, 2, 5), at(0, 1, 2, 6), impl.AliasMay},
		{at(0, -1, -1, 5), at(0, -1, -1, 5), impl.AliasMust},
		{at(0, -1, -1, 5), at(0, -1, -1, -5), impl.AliasNo},
		{at(0, -1, -1, 5), at(0, -1, 0, 5), impl.AliasMay},
		{at(0, 3, 3, 0), at(0, 3, 3, 0), impl.AliasMust},
		{at(0, 3, 3, 0), at(0, 3, 3, -1), impl.AliasNo},
		{at(0, 2, 3, 0), at(0, 3, 2, 0), impl.AliasMay},
		{at(0, 0, 0, math.MinInt), at(0, 0, 0, math.MaxInt), impl.AliasNo},
		{at(-1, 0, 0, 0), at(-1, 0, 0, 0), impl.AliasMust},
		{at(-1, 0, 0, 0), at(0, 0, 0, 0), impl.AliasNo},
		{at(-2, 0, 0, 0), at(-1, 0, 0, 0), impl.AliasNo},
	} {
		for _, pair := range [][2]impl.Place{{c.a, c.b}, {c.b, c.a}} {
			if got := impl.Alias(pair[0], pair[1]); got != c.want {
				t.Errorf("Alias of %s and %s is %d; want %d", plain(pair[0]), plain(pair[1]), got, c.want)
			}
		}
	}
}

func TestAliasOfAllPlacesOfFewNumbers(t *testing.T) {
	list := []impl.Place{}
	for _, region := range []int{-2, -1, 0, 1} {
		for _, i := range []int{-2, -1, 0, 7} {
			for _, j := range []int{-1, 0, 7, 1000} {
				for _, off := range []int{math.MinInt, -1, 0, 1, math.MaxInt} {
					list = append(list, impl.Place{Region: region, I: i, J: j, Off: off})
				}
			}
		}
	}
	count := map[string]int{}
	for _, p := range list {
		if got := impl.PlaceText(p); got != placeWord(p) {
			t.Fatalf("PlaceText of %s is %q", plain(p), got)
		}
		for _, q := range list {
			want := aliasOf(p, q)
			count[want]++
			if got := impl.AliasText(impl.Alias(p, q)); got != want {
				t.Fatalf("Alias of %s and %s is %q; want %q", plain(p), plain(q), got, want)
			}
		}
	}
	if len(count) != 3 || count["must"] != len(list) {
		t.Errorf("of %d places: %v", len(list), count)
	}
}

// wantClash tells the steps of a block with 4 slots the pairs that clash.
func wantClash(t *testing.T, steps string, want ...[2]int) {
	t.Helper()
	if got := impl.Clash(blockOf(t, 4, steps), 0); !slices.Equal(got, want) {
		t.Errorf("%q: Clash tells %v; want %v", steps, got, want)
	}
}

func TestClashOfTwoSteps(t *testing.T) {
	const load, store = "s3 = r0[s0]", "r0[s0] = s3"
	wantClash(t, "")
	wantClash(t, load)
	wantClash(t, store)
	wantClash(t, load+" / "+load)
	wantClash(t, load+" / "+store, [2]int{0, 1})
	wantClash(t, store+" / "+load, [2]int{0, 1})
	wantClash(t, store+" / "+store, [2]int{0, 1})
	// Places that may be one clash, too; those of which it is sure that they are not one do not.
	wantClash(t, "s3 = r0[s1] / "+load)
	wantClash(t, "s3 = r0[s1] / "+store, [2]int{0, 1})
	wantClash(t, store+" / s3 = r0[s0+s1]", [2]int{0, 1})
	wantClash(t, store+" / r0[s1] = s3", [2]int{0, 1})
	wantClash(t, store+" / s1 = 1 / s3 = r0[s0+s1]")
	wantClash(t, store+" / s1 = 0 / s3 = r0[s0+s1]", [2]int{0, 2})
	wantClash(t, store+" / s1 = 1 / r0[s0+s1] = s3")
	wantClash(t, store+" / s1 = 1 / r0[s1] = s3", [2]int{0, 2})
	wantClash(t, store+" / r1[s0] = s3 / s3 = r1[s1]", [2]int{1, 2})
	// What is no load and no store clashes with none, and makes no pair.
	wantClash(t, "put s0 / s1 = s0 / "+store+" / put s3 / s1 = get / s1 = s1 + s1")
	wantClash(t, "put s0 / put s0 / s1 = 2 / s1 = 2")
	// The slot is made anew in between.
	wantClash(t, store+" / s0 = get / "+load, [2]int{0, 2})
	wantClash(t, store+" / s1 = 1 / s0 = s0 + s1 / "+load)
	wantClash(t, "s0 = r0[s0] / "+store, [2]int{0, 1})
}

func TestClashTellsPairsInOrder(t *testing.T) {
	wantClash(t, "r0[s0] = s1 / s2 = r0[s1] / put s2 / s2 = r0[s0] / r1[s0] = s1 / r0[s2] = s0 / s1 = r1[s2]",
		[2]int{0, 1}, [2]int{0, 3}, [2]int{0, 5}, [2]int{1, 5}, [2]int{3, 5}, [2]int{4, 6})
	wantClash(t, "r0[s0] = s1 / r0[s1] = s1 / r0[s2] = s1 / r0[s3] = s1",
		[2]int{0, 1}, [2]int{0, 2}, [2]int{0, 3}, [2]int{1, 2}, [2]int{1, 3}, [2]int{2, 3})
	g := graphOf(t, 0, 2, "b0: / r0[s0] = s1 / go b1 / b1: / r0[s1] = s0 / s0 = r0[s1] / go b1")
	if got := impl.Clash(g, 0); len(got) != 0 {
		t.Errorf("one store clashes: %v", got)
	}
	if got := impl.Clash(g, 1); !slices.Equal(got, [][2]int{{0, 1}}) {
		t.Errorf("Clash of block 1 tells %v", got)
	}
}

// A tally counts the pairs of steps of which promise 6 was tried; coincided are those that may be one and were.
type tally struct{ must, no, coincided, apart int }

// wantSure is promise 6 of one block, with these numbers in its slots at its beginning and what told says for each load and each get.
func wantSure(t *testing.T, g impl.Graph, b int, slots []int, told func() int, count *tally) {
	t.Helper()
	places := impl.Places(g, b)
	spots, _ := spotsOf(g.Blocks[b].Code, slots, told)
	if len(places) != len(spots) {
		t.Fatalf("%sblock %d: %d places of %d steps", graphText(g), b, len(places), len(spots))
	}
	for i, p := range spots {
		if p.region != places[i].Region {
			t.Fatalf("%sblock %d, step %d: %s", graphText(g), b, i, plain(places[i]))
		}
		// Base -1 is 0: the place is known by its offset alone.
		if place := places[i]; p.region != -1 && place.J == -1 && place.Off != p.index {
			t.Fatalf("%sblock %d with %v: step %d at %v; told %s", graphText(g), b, slots, i, p, plain(place))
		}
		for j, q := range spots[:i] {
			if p.region == -1 || q.region == -1 {
				continue
			}
			alias := impl.Alias(places[j], places[i])
			if alias == impl.AliasMust && p != q || alias == impl.AliasNo && p == q {
				t.Fatalf("%sblock %d with %v: steps %d and %d at %v and %v are %q", graphText(g), b, slots, j, i, q, p, impl.AliasText(alias))
			}
			switch {
			case alias == impl.AliasMust:
				count.must++
			case alias == impl.AliasNo && p.region == q.region:
				count.no++
			case alias == impl.AliasMay && p == q:
				count.coincided++
			case alias == impl.AliasMay:
				count.apart++
			}
		}
	}
}

// wantKnown tells that a slot that is Known behind a block has one number there, whatever the block began with.
func wantKnown(t *testing.T, g impl.Graph, b int, some func() int) {
	t.Helper()
	_, first := spotsOf(g.Blocks[b].Code, make([]int, g.Slots), some)
	for range 3 {
		_, behind := spotsOf(g.Blocks[b].Code, numbersOf(g.Slots, some), some)
		for _, slot := range impl.Known(g, b) {
			if behind[slot] != first[slot] {
				t.Fatalf("%sblock %d: slot %d has %d, and %d", graphText(g), b, slot, first[slot], behind[slot])
			}
		}
	}
}

func numbersOf(n int, some func() int) []int {
	list := []int{}
	for range n {
		list = append(list, some())
	}
	return list
}

// wantTold tells a block what is told of it from behind.
func wantTold(t *testing.T, g impl.Graph, b int) {
	t.Helper()
	name := fmt.Sprintf("%sblock %d", graphText(g), b)
	want := backwards(g.Slots, g.Blocks[b].Code)
	if got := impl.Places(g, b); !slices.Equal(got, want.places()) {
		t.Fatalf("%s: Places tells %s; want %s", name, plain(got), plain(want.places()))
	}
	wantList(t, name+": Known", impl.Known(g, b), want.known()...)
	if got := impl.Fresh(g, b); got != want.freshAhead(len(want.code)) {
		t.Fatalf("%s: Fresh is %d; want %d", name, got, want.freshAhead(len(want.code)))
	}
	if got := impl.Clash(g, b); !slices.Equal(got, want.clashes()) {
		t.Fatalf("%s: Clash tells %v; want %v", name, got, want.clashes())
	}
}

func TestSurePlacesOfMadeBlocks(t *testing.T) {
	count := tally{}
	for seed := range int64(seeds) {
		r := rand.New(rand.NewSource(seed))
		g := withCode(1+r.Intn(5), nil)
		g.Blocks[0].Code = madeCode(r, g)
		wantTold(t, g, 0)
		// Few numbers, so that places that may be one are; and any.
		for _, some := range []func() int{func() int { return r.Intn(3) - 1 }, func() int { return someNumber(r) }} {
			for range 4 {
				wantSure(t, g, 0, numbersOf(g.Slots, some), some, &count)
			}
			wantKnown(t, g, 0, some)
		}
	}
	if min(count.must, count.no, count.coincided, count.apart) < seeds {
		t.Errorf("too few pairs: %+v", count)
	}
}

func TestSurePlacesOfPrograms(t *testing.T) {
	count := tally{}
	for seed := range int64(seeds) {
		p, _, _ := start(seed)
		g := impl.Lower(p)
		if !impl.GraphOk(g) {
			continue
		}
		r := rand.New(rand.NewSource(seed))
		some := func() int { return someNumber(r) }
		for b := range g.Blocks {
			wantTold(t, g, b)
			for range 3 {
				wantSure(t, g, b, someNumbers(r, g.Slots), some, &count)
			}
			wantKnown(t, g, b, some)
		}
	}
	if min(count.must, count.no, count.coincided, count.apart) < 100 {
		t.Errorf("too few pairs: %+v", count)
	}
}

// cells tells steps that load or store by each of the slots 0 and 1, and by each two.
func cells(x impl.Instr) []impl.Instr {
	list := []impl.Instr{}
	for _, a := range []int{-1, 0, 1} {
		for b := range 2 {
			x.A, x.B = a, b
			list = append(list, x)
		}
	}
	return list
}

// fewSteps are the steps that make slot 0 or 1 of these.
func fewSteps() []impl.Instr {
	list := []impl.Instr{}
	for d := range 2 {
		for _, n := range []int{0, 1, math.MaxInt, math.MinInt} {
			list = append(list, impl.Instr{D: d, N: n})
		}
		for a := range 2 {
			list = append(list, impl.Instr{Op: impl.InMove, D: d, A: a})
			for b := range 2 {
				for _, sign := range []string{"+", "-", "*", "=="} {
					list = append(list, impl.Instr{Op: impl.InBin, D: d, A: a, B: b, Text: sign})
				}
			}
		}
		list = append(list, impl.Instr{Op: impl.InGet, D: d})
		list = append(list, cells(impl.Instr{Op: impl.InLoad, D: d})...)
	}
	return list
}

func TestSurePlacesOfAllBlocksOfFewSteps(t *testing.T) {
	count := tally{}
	loads, stores := cells(impl.Instr{Op: impl.InLoad, D: 2}), cells(impl.Instr{Op: impl.InStore})
	starts := [][]int{{0, 0, 0}, {0, 1, 0}, {1, 0, 0}, {1, 1, 0}, {2, -1, 0}, {-1, 1, 0}, {math.MaxInt, 1, 0}, {math.MinInt, math.MinInt, 0}, {5, math.MaxInt, 0}}
	numbers := []int{0, 1, -1, math.MaxInt, 2}
	for _, x := range fewSteps() {
		for _, y := range fewSteps() {
			g := withCode(3, slices.Concat(loads, []impl.Instr{x, y}, stores))
			wantTold(t, g, 0)
			for next, slots := range starts {
				wantSure(t, g, 0, slots, func() int {
					next++
					return numbers[next%len(numbers)]
				}, &count)
			}
		}
	}
	if min(count.must, count.no, count.coincided, count.apart) < seeds {
		t.Errorf("too few pairs: %+v", count)
	}
}

func TestPlacesAtTheEdgesOfGraphs(t *testing.T) {
	load := impl.Instr{Op: impl.InLoad, D: impl.MaxSlots - 1, A: impl.MaxSlots - 1, B: 0}
	g := withCode(impl.MaxSlots, slices.Repeat([]impl.Instr{load}, impl.MaxCode))
	places := impl.Places(g, 0)
	if len(places) != impl.MaxCode || places[0] != (impl.Place{J: 999}) || places[1] != (impl.Place{J: 1000}) || places[999] != (impl.Place{J: 1998}) {
		t.Errorf("Places tells %s", plain(places))
	}
	if impl.Fresh(g, 0) != impl.MaxCode || len(impl.Clash(g, 0)) != 0 || len(impl.Known(g, 0)) != 0 {
		t.Errorf("Fresh is %d", impl.Fresh(g, 0))
	}
	g.Blocks[0].Code[0] = impl.Instr{Op: impl.InStore, A: -1, B: 3}
	g.Blocks[0].Code[999] = impl.Instr{Op: impl.InStore, A: -1, B: 4}
	// Each of the two clashes with all others.
	if got := impl.Clash(g, 0); len(got) != 999+998 || got[0] != [2]int{0, 1} || got[998] != [2]int{0, 999} || got[999] != [2]int{1, 999} || got[1996] != [2]int{998, 999} {
		t.Errorf("%d pairs", len(got))
	}
	stores := withCode(1, slices.Repeat([]impl.Instr{{Op: impl.InStore, A: -1}}, impl.MaxCode))
	if got := impl.Clash(stores, 0); len(got) != 999*1000/2 || got[len(got)-1] != [2]int{998, 999} {
		t.Errorf("%d pairs of stores", len(got))
	}
	consts := impl.Graph{Sizes: []int{1}, Slots: impl.MaxSlots, Blocks: bare(impl.MaxBlocks)}
	for slot := range impl.MaxSlots {
		b := &consts.Blocks[slot/4]
		b.Code = append(b.Code, impl.Instr{D: slot})
	}
	wantList(t, "Known of block 249", impl.Known(consts, 249), 996, 997, 998, 999)
	if len(impl.Known(consts, impl.MaxBlocks-1)) != 0 || impl.Fresh(consts, impl.MaxBlocks-1) != 0 || impl.Fresh(consts, impl.MaxBlocks) != -1 {
		t.Error("the last block, and the one behind it")
	}
	for name, change := range map[string]func(g *impl.Graph){
		"one step more":  func(g *impl.Graph) { g.Blocks[0].Code = append(g.Blocks[0].Code, load) },
		"one slot more":  func(g *impl.Graph) { g.Slots++ },
		"one block more": func(g *impl.Graph) { g.Blocks = append(g.Blocks, bare(impl.MaxBlocks)...) },
	} {
		h := otherGraph(g)
		change(&h)
		wantNoPlaces(t, name, h, 0)
	}
}

func wantNoPlaces(t *testing.T, name string, g impl.Graph, b int) {
	t.Helper()
	if places, known, clash := impl.Places(g, b), impl.Known(g, b), impl.Clash(g, b); len(places) != 0 || len(known) != 0 || len(clash) != 0 {
		t.Errorf("%s, block %d: %s, %v, %v", name, b, plain(places), known, clash)
	}
	if got := impl.Fresh(g, b); got != -1 {
		t.Errorf("%s, block %d: Fresh is %d", name, b, got)
	}
}

func TestPlacesOfWrongGraphsAndBlocks(t *testing.T) {
	for name, g := range wrongGraphs() {
		for _, b := range []int{-1, 0, 1, 2, 3, 300, math.MinInt, math.MaxInt} {
			wantNoPlaces(t, name, g, b)
		}
	}
	for _, p := range []impl.Program{withExps(20, impl.MaxSlots-20), withBlocks(impl.MaxBlocks + 1), withSteps(impl.MaxCode + 1)} {
		wantNoPlaces(t, "a long program", impl.Lower(p), 0)
	}
	for _, g := range []impl.Graph{sample(), withCode(1, nil), impl.Lower(whole())} {
		for _, b := range []int{-1, -2, len(g.Blocks), len(g.Blocks) + 1, math.MinInt, math.MaxInt} {
			wantNoPlaces(t, "no such block", g, b)
		}
		for b := range g.Blocks {
			if impl.Fresh(g, b) == -1 || len(impl.Places(g, b)) != len(g.Blocks[b].Code) {
				t.Errorf("nothing is told of block %d of\n%s", b, graphText(g))
			}
		}
	}
	// Another block is wrong.
	g := withCode(2, []impl.Instr{{D: 1}, {Op: impl.InStore, A: -1}})
	g.Blocks = append(g.Blocks, impl.Block{Code: []impl.Instr{{D: 2}}})
	wantNoPlaces(t, "another block", g, 0)
	// A block that nobody comes to is told of, too.
	g.Blocks[1].Code[0].D = 0
	wantList(t, "Known of block 1", impl.Known(g, 1), 0)
}

func TestPlacesWriteIntoNothing(t *testing.T) {
	someGraphs(func(g impl.Graph, _ []int, _ []int) {
		g, tell := roomy(g)
		ahead := tell()
		for b := -1; b <= len(g.Blocks); b++ {
			impl.Places(g, b)
			impl.Known(g, b)
			impl.Fresh(g, b)
			impl.Clash(g, b)
		}
		if tell() != ahead {
			t.Fatalf("written into: %s", plain(g))
		}
	})
}

func TestAnswersOfPlacesAreNewMemory(t *testing.T) {
	someGraphs(func(g impl.Graph, _ []int, _ []int) {
		for b := range g.Blocks {
			tell := func() string { return plain([]any{g, impl.Places(g, b), impl.Known(g, b), impl.Clash(g, b)}) }
			ahead := tell()
			places, pairs := impl.Places(g, b), impl.Clash(g, b)
			for i := range places {
				places[i] = impl.Place{Region: -7}
			}
			for i := range pairs {
				pairs[i] = [2]int{-7, -7}
			}
			_, _ = append(places, impl.Place{Region: -7}), append(pairs, [2]int{-7, -7})
			spoil(impl.Known(g, b))
			if tell() != ahead {
				t.Fatalf("an answer shares memory with %s", plain(g))
			}
		}
	})
}
