package tests

import (
	"fmt"
	"math"
	"slices"
	"strings"
	"testing"

	"loop.example/g00385/impl"
)

// wantExec tells an image with regions of 4 and of 2 places, 2 parameters and 5 slots what it does, and how much that takes.
func wantExec(t *testing.T, text string, args []int, input []int, want string, cost int) {
	t.Helper()
	wantRun(t, text, imageOf(t, text), args, input, want, cost)
}

// wantRun tells it with all fuel, with each that is enough or not, and a second time.
func wantRun(t *testing.T, name string, m impl.Image, args []int, input []int, want string, cost int) {
	t.Helper()
	wantEnd(t, name, impl.Exec(m, args, input, impl.MaxFuel), want)
	if got := impl.Cost(m, args, input); got != cost {
		t.Errorf("%s: Cost = %d; want %d", name, got, cost)
	}
	wantEnd(t, name, impl.Exec(m, args, input, cost), want)
	tale := ranCode(m, args, input, cost)
	for fuel := range cost {
		if got, want := impl.Exec(m, args, input, fuel), tale.withFuel(fuel); !impl.SameEnd(got, want) || got.Code != impl.EndFuel {
			t.Errorf("%s: with %d of fuel %+v; want %+v", name, fuel, got, want)
		}
	}
}

func TestExecOfEachOp(t *testing.T) {
	args := []int{11, -4}
	wantExec(t, "ret 0 0 0 0", args, nil, "done 0", 1)
	wantExec(t, "li 15 0 0 7 / ret 15 0 0 0", args, nil, "done 7", 2)
	wantExec(t, "li 15 0 0 7 / ret 14 0 0 0", args, nil, "done 0", 2)
	wantExec(t, "li 0 0 0 -9223372036854775808 / ret 0 0 0 0", args, nil, "done -9223372036854775808", 2)
	wantExec(t, "li 0 0 0 9223372036854775807 / out 0 0 0 0 / ret 1 0 0 0", args, nil, "done 0 9223372036854775807", 3)
	// Slots: what they are at first, and what is stored there.
	wantExec(t, "ld 2 0 0 0 / ret 2 0 0 0", args, nil, "done 11", 2)
	wantExec(t, "ld 2 0 0 1 / ret 2 0 0 0", args, nil, "done -4", 2)
	wantExec(t, "li 2 0 0 5 / ld 2 0 0 2 / ret 2 0 0 0", args, nil, "done 0", 3)
	wantExec(t, "li 2 0 0 5 / sd 2 0 0 4 / li 2 0 0 6 / ld 3 0 0 4 / out 2 0 0 0 / ret 3 0 0 0", args, nil, "done 5 6", 6)
	wantExec(t, "li 2 0 0 5 / sd 2 0 0 0 / ld 3 0 0 0 / out 3 0 0 0 / ld 3 0 0 1 / ret 3 0 0 0", args, nil, "done -4 5", 6)
	// The number of a slot is no register, and that of a register no slot.
	wantExec(t, "ld 1 0 0 0 / sd 0 0 0 1 / ld 4 0 0 1 / out 1 0 0 0 / ret 4 0 0 0", args, nil, "done 0 11", 5)
	// A move sets R, not A.
	wantExec(t, "ld 1 0 0 0 / mv 2 1 0 0 / out 1 0 0 0 / ret 2 0 0 0", args, nil, "done 11 11", 4)
	wantExec(t, "ld 1 0 0 0 / mv 1 2 0 0 / out 1 0 0 0 / ret 2 0 0 0", args, nil, "done 0 0", 4)
	wantExec(t, "ld 1 0 0 0 / mv 1 1 0 0 / ret 1 0 0 0", args, nil, "done 11", 3)
	// Input, and what stands behind its end, again and again.
	wantExec(t, "in 3 0 0 0 / out 3 0 0 0 / in 3 0 0 0 / out 3 0 0 0 / in 4 0 0 0 / out 4 0 0 0 / in 3 0 0 0 / ret 3 0 0 0", args, []int{8, -9}, "done -1 8 -9 -1", 8)
	wantExec(t, "in 3 0 0 0 / ret 3 0 0 0", args, nil, "done -1", 2)
	wantExec(t, "in 3 0 0 0 / in 3 0 0 0 / ret 3 0 0 0", args, []int{-1, 0, 7}, "done 0", 3)
	// Places: of two regions, at first and behind a store.
	wantExec(t, "li 1 0 0 1 / li 2 0 0 9 / sx 2 1 0 0 / lx 3 1 0 0 / out 3 0 0 0 / lx 3 1 0 1 / out 3 0 0 0 / lx 3 0 0 0 / ret 3 0 0 0", args, nil, "done 0 9 0", 9)
	wantExec(t, "li 1 0 0 1 / sx 1 1 0 1 / lx 1 1 0 1 / lx 1 1 0 1 / ret 1 0 0 0", args, nil, "done 1", 5)
	wantExec(t, "li 1 0 0 3 / sx 1 1 0 0 / li 1 0 0 0 / lx 2 1 0 0 / out 2 0 0 0 / li 1 0 0 3 / lx 2 1 0 0 / ret 2 0 0 0", args, nil, "done 3 0", 8)
	// Each has its end in its midst, too: what stands behind an OpRet is not done.
	wantExec(t, "out 0 0 0 0 / ret 0 0 0 0 / out 0 0 0 0 / ret 0 0 0 0", args, nil, "done 0 0", 2)
}

func TestExecOfEachSign(t *testing.T) {
	const most, least = math.MaxInt, math.MinInt
	numbers := []int{0, 1, -1, 2, 3, -7, 12, most, most - 1, least, least + 1, 1 << 32, 1<<32 + 1, -1 << 31}
	for n, sign := range strings.Fields("+ - * & == <") {
		// Into another register, into A, into B, and of one register with itself.
		for way, word := range []string{"alu 3 1 2 %d", "alu 1 1 2 %d", "alu 2 1 2 %d", "alu 15 1 1 %d", "alu 2 2 2 %d"} {
			text := fmt.Sprintf("ld 1 0 0 0 / ld 2 0 0 1 / "+word+" / out 1 0 0 0 / out 2 0 0 0 / out 3 0 0 0 / ret 15 0 0 0", n)
			m := imageOf(t, text)
			for _, x := range numbers {
				for _, y := range numbers {
					regs := []int{x, y, 0, 0}
					pairs := [][2]int{{x, y}, {x, y}, {x, y}, {x, x}, {y, y}}
					regs[[]int{2, 0, 1, 3, 1}[way]] = around(sign, pairs[way][0], pairs[way][1])
					want := fmt.Sprint("done ", regs[3], " ", regs[0], " ", regs[1], " ", regs[2])
					wantEnd(t, text, impl.Exec(m, []int{x, y}, nil, 7), want)
				}
			}
		}
	}
}

func TestExecOfJumps(t *testing.T) {
	// Forth, over words that would be seen, and to the next one.
	wantExec(t, "jmp 0 0 0 2 / out 0 0 0 0 / ret 0 0 0 0", []int{0, 0}, nil, "done 0", 2)
	wantExec(t, "jmp 0 0 0 1 / out 0 0 0 0 / ret 0 0 0 0", []int{0, 0}, nil, "done 0 0", 3)
	wantExec(t, "jmp 0 0 0 3 / out 0 0 0 0 / ret 0 0 0 0 / jmp 0 0 0 1", []int{0, 0}, nil, "done 0 0", 4)
	// An OpJz: taken where its register is 0, whatever the others are.
	for _, n := range []int{0, 1, -1, math.MinInt, math.MaxInt, 1 << 32, 1 << 8, -1 << 63} {
		want, cost := fmt.Sprint("done ", n, " ", n), 4
		if n == 0 {
			want, cost = "done 0", 3
		}
		wantExec(t, "ld 1 0 0 0 / jz 1 0 0 3 / out 1 0 0 0 / ret 1 0 0 0", []int{n, 5}, nil, want, cost)
		wantExec(t, "ld 1 0 0 0 / ld 0 0 0 1 / jz 1 0 0 4 / out 1 0 0 0 / ret 1 0 0 0", []int{n, 5}, nil, want, cost+1)
	}
	// To the next word it takes as much either way.
	for _, n := range []int{0, 3} {
		wantExec(t, "ld 1 0 0 0 / jz 1 0 0 2 / ret 1 0 0 0", []int{n, 0}, nil, fmt.Sprint("done ", n), 3)
	}
	// Back: as long as something comes in, and until it is 0.
	wantExec(t, "in 1 0 0 0 / out 1 0 0 0 / jz 1 0 0 0 / ret 1 0 0 0", []int{0, 0}, []int{0, 0, 6, 0}, "done 6 0 0 6", 10)
	wantExec(t, "in 1 0 0 0 / jz 1 0 0 4 / out 1 0 0 0 / jmp 0 0 0 0 / ret 2 0 0 0", []int{0, 0}, []int{5, -1, 0, 9}, "done 0 5 -1", 11)
	wantExec(t, "ld 1 0 0 0 / li 2 0 0 1 / alu 1 1 2 1 / out 1 0 0 0 / jz 1 0 0 6 / jmp 0 0 0 2 / ret 0 0 0 0", []int{3, 0}, nil, "done 0 2 1 0", 14)
	// What a loop has stored is there the next time.
	wantExec(t, "ld 1 0 0 2 / li 2 0 0 1 / alu 1 1 2 0 / sd 1 0 0 2 / ld 2 0 0 0 / alu 2 1 2 4 / jz 2 0 0 0 / ret 1 0 0 0", []int{4, 0}, nil, "done 4", 29)
	// The last word is an OpJmp.
	wantExec(t, "jz 0 0 0 2 / ret 0 0 0 0 / jmp 0 0 0 1", []int{0, 0}, nil, "done 0", 3)
}

func TestExecWithoutAnEnd(t *testing.T) {
	for _, c := range []struct {
		text string
		outs int
	}{{"jmp 0 0 0 0", 0}, {"jz 0 0 0 0 / ret 0 0 0 0", 0}, {"out 0 0 0 0 / jmp 0 0 0 0", impl.MaxFuel / 2}, {"out 0 0 0 0 / out 0 0 0 0 / jmp 0 0 0 1", impl.MaxFuel/2 + 1}, {"in 1 0 0 0 / out 1 0 0 0 / jmp 0 0 0 0", 33333}} {
		m := imageOf(t, c.text)
		e := impl.Exec(m, []int{0, 0}, nil, impl.MaxFuel)
		if e.Code != impl.EndFuel || e.Val != 0 || len(e.Out) != c.outs || impl.Cost(m, []int{0, 0}, nil) != impl.MaxFuel {
			t.Errorf("%s: code %d, %d numbers, cost %d", c.text, e.Code, len(e.Out), impl.Cost(m, []int{0, 0}, nil))
		}
		for fuel := range 20 {
			if got, want := impl.Exec(m, []int{0, 0}, nil, fuel), ranCode(m, []int{0, 0}, nil, 30).withFuel(fuel); !impl.SameEnd(got, want) {
				t.Errorf("%s: with %d of fuel %+v; want %+v", c.text, fuel, got, want)
			}
		}
	}
}

func TestExecAtTheEdgesOfRegions(t *testing.T) {
	for _, size := range []int{1, 2, 4, 15, 16} {
		m := impl.Image{Sizes: []int{16, size, 16}, Params: 1, Slots: 1}
		for _, at := range []int{math.MinInt, math.MinInt + 1, -size, -16, -1, 0, 1, size - 1, size, size + 1, 15, 16, 17, 1 << 8, 1 << 16, 1 << 31, 1 << 32, 1<<32 + 1, 1 << 62, math.MaxInt - 1, math.MaxInt} {
			there := 0 <= at && at < size
			// What was put out ahead of it is told, and nothing of the words behind it.
			m.Code = []impl.Word{{N: 9}, {Op: impl.OpOut}, {Op: impl.OpLd, R: 1}, {Op: impl.OpLx, R: 2, A: 1, N: 1}, {Op: impl.OpOut, R: 2}, {N: 7}, {Op: impl.OpOut}, {Op: impl.OpRet}}
			want, cost := "trap 9", 4
			if there {
				want, cost = "done 7 9 0 7", 8
			}
			wantRun(t, fmt.Sprint("a load at ", at, " of ", size), m, []int{at}, nil, want, cost)
			m.Code = []impl.Word{{N: 9}, {Op: impl.OpOut}, {Op: impl.OpLd, R: 1}, {Op: impl.OpSx, R: 0, A: 1, N: 1}, {Op: impl.OpLx, R: 2, A: 1, N: 1}, {Op: impl.OpOut, R: 2}, {Op: impl.OpRet, R: 2}}
			if there {
				want, cost = "done 9 9 9", 7
			}
			wantRun(t, fmt.Sprint("a store at ", at, " of ", size), m, []int{at}, nil, want, cost)
			// Behind a trap no jump goes on, and no OpRet ends.
			m.Code = []impl.Word{{Op: impl.OpLd, R: 1}, {Op: impl.OpLx, R: 2, A: 1, N: 1}, {Op: impl.OpJmp, N: 4}, {Op: impl.OpOut, R: 1}, {Op: impl.OpRet, R: 1}}
			want, cost = "trap", 2
			if there {
				want, cost = fmt.Sprint("done ", at), 4
			}
			wantRun(t, fmt.Sprint("a jump behind ", at, " of ", size), m, []int{at}, nil, want, cost)
		}
	}
	// A place that is around 64 bits: two numbers that are none come to one, and two that are some to none.
	for _, c := range []struct {
		x, y int
		want string
	}{{math.MinInt, math.MinInt, "done 0"}, {math.MaxInt, math.MinInt + 2, "done 0"}, {math.MaxInt, math.MinInt + 4, "done 0"}, {math.MaxInt, math.MinInt + 5, "trap"}, {math.MaxInt, math.MinInt, "trap"}, {math.MaxInt, 1, "trap"}, {-1, 1, "done 0"}, {3, 1, "trap"}} {
		for _, op := range []string{"lx", "sx"} {
			e := impl.Exec(imageOf(t, "ld 1 0 0 0 / ld 2 0 0 1 / alu 1 1 2 0 / "+op+" 3 1 0 0 / ret 3 0 0 0"), []int{c.x, c.y}, nil, 9)
			wantEnd(t, fmt.Sprint(op, " at ", c.x, " + ", c.y), e, c.want)
		}
	}
}

func TestExecBehindATrapInEachRegion(t *testing.T) {
	m := impl.Image{Sizes: []int{1, 16, 3, 7}, Params: 1, Slots: 1}
	for region, size := range m.Sizes {
		for _, op := range []int{impl.OpLx, impl.OpSx} {
			for at := -1; at <= 16; at++ {
				m.Code = []impl.Word{{Op: impl.OpLd, R: 5}, {Op: op, R: 6, A: 5, N: region}, {Op: impl.OpRet}}
				want, cost := "trap", 2
				if 0 <= at && at < size {
					want, cost = "done 0", 3
				}
				wantRun(t, fmt.Sprint(opWords[op], " of region ", region, " at ", at), m, []int{at}, nil, want, cost)
			}
		}
	}
}

func TestExecBeginsWithNoughts(t *testing.T) {
	// Each register, each slot behind the arguments, and each place of each region.
	for _, params := range []int{0, 1, 5, 6} {
		m := impl.Image{Sizes: []int{16, 1, 3, 16}, Params: params, Slots: 30}
		args := []int{}
		want := "done 0" + strings.Repeat(" 0", 16)
		for r := range 16 {
			m.Code = append(m.Code, impl.Word{Op: impl.OpOut, R: r})
		}
		for slot := range 30 {
			m.Code = append(m.Code, impl.Word{Op: impl.OpLd, R: 3, N: slot}, impl.Word{Op: impl.OpOut, R: 3})
			if slot < params {
				args = append(args, 50+slot)
				want += fmt.Sprint(" ", 50+slot)
			} else {
				want += " 0"
			}
		}
		for region, size := range m.Sizes {
			for at := range size {
				m.Code = append(m.Code, impl.Word{R: 3, N: at}, impl.Word{Op: impl.OpLx, R: 3, A: 3, N: region}, impl.Word{Op: impl.OpOut, R: 3})
				want += " 0"
			}
		}
		m.Code = append(m.Code, impl.Word{Op: impl.OpRet, R: 15})
		// Twice: nothing is kept from one call to another.
		for range 2 {
			wantEnd(t, fmt.Sprint(params, " parameters"), impl.Exec(m, args, nil, 1000), want)
		}
	}
}

func TestExecHasEachRegisterSlotAndPlaceOnce(t *testing.T) {
	m := impl.Image{Sizes: []int{16, 16, 5, 16}, Slots: impl.MaxSlots}
	want := "done 115"
	for r := range 16 {
		m.Code = append(m.Code, impl.Word{R: r, N: 100 + r})
		want += fmt.Sprint(" ", 100+r)
	}
	for r := range 16 {
		m.Code = append(m.Code, impl.Word{Op: impl.OpOut, R: r})
	}
	m.Code = append(m.Code, impl.Word{Op: impl.OpRet, R: 15})
	wantEnd(t, "registers", impl.Exec(m, nil, nil, 1000), want)

	m.Code, want = nil, "done 999"
	for slot := range impl.MaxSlots {
		m.Code = append(m.Code, impl.Word{R: 2, N: slot}, impl.Word{Op: impl.OpSd, R: 2, N: slot})
		want += fmt.Sprint(" ", slot)
	}
	for slot := range impl.MaxSlots {
		m.Code = append(m.Code, impl.Word{Op: impl.OpLd, R: 2, N: slot}, impl.Word{Op: impl.OpOut, R: 2})
	}
	m.Code = append(m.Code, impl.Word{Op: impl.OpRet, R: 2})
	wantEnd(t, "slots", impl.Exec(m, nil, nil, 5000), want)

	m.Code, want = nil, "done 315"
	for region, size := range m.Sizes {
		for at := range size {
			m.Code = append(m.Code, impl.Word{R: 2, N: at}, impl.Word{R: 3, N: 100*region + at}, impl.Word{Op: impl.OpSx, R: 3, A: 2, N: region})
			want += fmt.Sprint(" ", 100*region+at)
		}
	}
	for region, size := range m.Sizes {
		for at := range size {
			m.Code = append(m.Code, impl.Word{R: 2, N: at}, impl.Word{Op: impl.OpLx, R: 3, A: 2, N: region}, impl.Word{Op: impl.OpOut, R: 3})
		}
	}
	m.Code = append(m.Code, impl.Word{Op: impl.OpRet, R: 3})
	wantEnd(t, "places", impl.Exec(m, nil, nil, 5000), want)
}

// countDown takes 3 for each time around its loop, 2 more, and 1 for each word that is put ahead of it.
func countDown(times int, more int) impl.Image {
	code := slices.Repeat([]impl.Word{{Op: impl.OpMv}}, more)
	code = append(code, impl.Word{R: 1, N: times}, impl.Word{R: 2, N: 1}, impl.Word{Op: impl.OpAlu, R: 1, A: 1, B: 2, N: 1})
	code = append(code, impl.Word{Op: impl.OpJz, R: 1, N: more + 5}, impl.Word{Op: impl.OpJmp, N: more + 2}, impl.Word{Op: impl.OpRet, R: 2})
	return impl.Image{Sizes: []int{1}, Code: code}
}

func TestExecAtTheEdgesOfFuel(t *testing.T) {
	m := imageOf(t, "in 1 0 0 0 / out 1 0 0 0 / in 1 0 0 0 / out 1 0 0 0 / ret 1 0 0 0")
	for fuel, want := range map[int]string{
		0: "fuel", 1: "fuel", 2: "fuel 5", 3: "fuel 5", 4: "fuel 5 6", 5: "done 6 5 6", 6: "done 6 5 6", impl.MaxFuel - 1: "done 6 5 6", impl.MaxFuel: "done 6 5 6",
		impl.MaxFuel + 1: "none", -1: "none", math.MaxInt: "none", math.MinInt: "none", 1 << 32: "none", 1<<32 + 5: "none",
	} {
		wantEnd(t, fmt.Sprint("fuel ", fuel), impl.Exec(m, []int{0, 0}, []int{5, 6}, fuel), want)
	}
	// A trap takes its word's fuel: with one less there is no trap yet.
	m = imageOf(t, "li 1 0 0 4 / out 1 0 0 0 / lx 1 1 0 0 / ret 1 0 0 0")
	for fuel, want := range map[int]string{0: "fuel", 1: "fuel", 2: "fuel 4", 3: "trap 4", 4: "trap 4", impl.MaxFuel: "trap 4", impl.MaxFuel + 1: "none"} {
		wantEnd(t, fmt.Sprint("fuel ", fuel), impl.Exec(m, []int{0, 0}, nil, fuel), want)
	}
	// An OpRet is the last word that there is fuel for, of all fuel: one word more, and it is not.
	for more, want := range map[int]string{1: "done 1", 2: "done 1", 3: "fuel"} {
		m = countDown(33332, more)
		wantEnd(t, fmt.Sprint(more, " words more"), impl.Exec(m, nil, nil, impl.MaxFuel), want)
		if got := impl.Cost(m, nil, nil); got != min(impl.MaxFuel, 99998+more) {
			t.Errorf("%d words more: Cost = %d", more, got)
		}
		wantEnd(t, "one less", impl.Exec(m, nil, nil, min(impl.MaxFuel, 99998+more)-1), "fuel")
	}
	for _, times := range []int{1, 2, 3, 10} {
		wantRun(t, fmt.Sprint(times, " times"), countDown(times, 0), nil, nil, "done 1", 3*times+2)
	}
}

// wantNoRun tells an image, or what it is begun with, as not right.
func wantNoRun(t *testing.T, name string, m impl.Image, args []int, input []int) {
	t.Helper()
	for _, fuel := range []int{-1, 0, 1, 1000, impl.MaxFuel, impl.MaxFuel + 1} {
		if got := impl.Exec(m, args, input, fuel); got.Code != impl.EndNone || got.Val != 0 || len(got.Out) != 0 {
			t.Errorf("%s: with %d of fuel %.300s", name, fuel, plain(got))
		}
	}
	if got := impl.Cost(m, args, input); got != -1 {
		t.Errorf("%s: Cost = %d", name, got)
	}
}

func TestExecOfArguments(t *testing.T) {
	for params := range 7 {
		// Slots that are as many as the parameters, and more.
		for _, slots := range []int{params, params + 1, impl.MaxSlots} {
			m := impl.Image{Sizes: []int{1}, Params: params, Slots: slots, Code: []impl.Word{}}
			want := "done 0"
			args := []int{}
			for slot := range min(slots, params+1) {
				m.Code = append(m.Code, impl.Word{Op: impl.OpLd, R: 3, N: slot}, impl.Word{Op: impl.OpOut, R: 3})
			}
			for i := range params {
				args = append(args, []int{7, -7, math.MinInt, math.MaxInt, 0, 1 << 40}[i])
				want += fmt.Sprint(" ", args[i])
			}
			if slots > params {
				want += " 0"
			}
			m.Code = append(m.Code, impl.Word{Op: impl.OpRet})
			name := fmt.Sprint(params, " parameters of ", slots, " slots")
			wantRun(t, name, m, args, nil, want, len(m.Code))
			for n := range 9 {
				if n != params {
					wantNoRun(t, fmt.Sprint(name, ", ", n, " given"), m, make([]int, n), nil)
				}
			}
			wantNoRun(t, name, m, make([]int, 2000), nil)
		}
	}
	// No slot at all; nil and the empty list are the same.
	m := impl.Image{Sizes: []int{1}, Code: []impl.Word{{Op: impl.OpRet}}}
	wantRun(t, "no slot", m, nil, nil, "done 0", 1)
	wantRun(t, "no slot", m, []int{}, []int{}, "done 0", 1)
}

func TestExecOfManyInputs(t *testing.T) {
	m := imageOf(t, "in 1 0 0 0 / jz 1 0 0 4 / out 1 0 0 0 / jmp 0 0 0 0 / in 2 0 0 0 / ret 2 0 0 0")
	input := upTo(101)[1:]
	input[99] = 0
	want := "done -1"
	for _, n := range input[:99] {
		want += fmt.Sprint(" ", n)
	}
	wantRun(t, "100 numbers", m, []int{0, 0}, input, want, 99*4+4)
	for _, more := range []int{101, 102, 5000} {
		wantNoRun(t, fmt.Sprint(more, " numbers"), m, []int{0, 0}, make([]int, more))
	}
	// Too much is refused also where nothing is read.
	wantNoRun(t, "nothing read", imageOf(t, "ret 0 0 0 0"), []int{0, 0}, make([]int, 101))
}

func TestExecOfMostWords(t *testing.T) {
	m := impl.Image{Sizes: []int{1}, Code: manyWords(6000)}
	wantEnd(t, "most words", impl.Exec(m, nil, nil, 6000), "done 0")
	wantEnd(t, "most words", impl.Exec(m, nil, nil, 5999), "fuel")
	if got := impl.Cost(m, nil, nil); got != 6000 {
		t.Errorf("Cost = %d", got)
	}
	// From the first one to the last one at once, and back by the last one.
	m.Code[0] = impl.Word{Op: impl.OpJz, R: 1, N: 5999}
	wantRun(t, "to the last", m, nil, nil, "done 0", 2)
	m.Code[0], m.Code[1], m.Code[5999] = impl.Word{Op: impl.OpJmp, N: 5999}, impl.Word{Op: impl.OpRet}, impl.Word{Op: impl.OpJmp, N: 1}
	wantRun(t, "back", m, nil, nil, "done 0", 3)
	wantNoRun(t, "one more", impl.Image{Sizes: []int{1}, Code: manyWords(6001)}, nil, nil)
}

func TestExecOfWrongImages(t *testing.T) {
	for name, m := range wrongImages() {
		for _, n := range []int{0, 1, max(0, min(m.Params, 9))} {
			wantNoRun(t, name, m, make([]int, n), []int{1})
		}
		if got := impl.PutImage(m); got != "" {
			t.Errorf("%s: is put as %.80q", name, got)
		}
	}
	farImages(func(m impl.Image) {
		wantNoRun(t, plain(m), m, make([]int, max(0, min(m.Params, 9))), nil)
		if got := impl.PutImage(m); got != "" {
			t.Errorf("%s: is put as %.80q", plain(m), got)
		}
	})
	// What is wrong stands where one does not come, or there is no fuel to come.
	m := imageOf(t, "ret 0 0 0 0 / lx 0 0 0 0 / ret 0 0 0 0")
	m.Code[1].N = 2
	wantNoRun(t, "a wrong word behind the end", m, []int{0, 0}, nil)
	// All at once.
	wantNoRun(t, "all", impl.Image{Params: 3, Code: make([]impl.Word, 3)}, make([]int, 9), make([]int, 999))
}

func TestExecOfMadeImages(t *testing.T) {
	t.Parallel()
	ends := map[int]int{}
	for seed := range int64(seeds) {
		m, args, input := madeImage(seed)
		name := fmt.Sprint("seed ", seed)
		const most = 60
		tale := ranCode(m, args, input, most)
		for fuel := range most {
			if got, want := impl.Exec(m, args, input, fuel), tale.withFuel(fuel); !impl.SameEnd(got, want) {
				t.Fatalf("%s: with %v / %v and %d of fuel\n%sends %+v; want %+v", name, args, input, fuel, impl.ShowCode(m), got, want)
			}
		}
		ends[tale.end.Code]++
		if tale.end.Code == impl.EndFuel {
			continue
		}
		if got := impl.Cost(m, args, input); got != len(tale.ahead) {
			t.Fatalf("%s: Cost of\n%sis %d; want %d", name, impl.ShowCode(m), got, len(tale.ahead))
		}
		if got, want := impl.Exec(m, args, input, impl.MaxFuel), tale.withFuel(most); !impl.SameEnd(got, want) {
			t.Fatalf("%s: with all fuel %+v; want %+v", name, got, want)
		}
		wantNoRun(t, name, m, append(args, 0), input)
	}
	if ends[impl.EndDone] < seeds/10 || ends[impl.EndTrap] < seeds/30 || ends[impl.EndFuel] < seeds/10 {
		t.Errorf("ends %v", ends)
	}
}
