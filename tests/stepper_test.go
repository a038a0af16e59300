package tests

import (
	"fmt"
	"math"
	"slices"
	"strings"
	"testing"

	"loop.example/g00385/impl"
)

// begun is the Cpu of an image that can be run with what it is given.
func begun(t *testing.T, name string, m impl.Image, args []int, input []int) impl.Cpu {
	t.Helper()
	c, ok := impl.CpuNew(m, args, input)
	if !ok {
		t.Fatalf("%s: no Cpu with %v / %v", name, args, input)
	}
	return c
}

// wantSteps tells an image with regions of 4 and of 2 places, 2 parameters and 5 slots what its Cpu is ahead of the first word and behind each.
func wantSteps(t *testing.T, text string, args []int, input []int, wants ...string) {
	t.Helper()
	wantStepsOf(t, text, imageOf(t, text), args, input, wants...)
}

// wantStepsOf tells each step from the one ahead of it and from the beginning; behind the end nothing changes.
func wantStepsOf(t *testing.T, name string, m impl.Image, args []int, input []int, wants ...string) {
	t.Helper()
	c := begun(t, name, m, args, input)
	step := c
	last := wants[len(wants)-1]
	if !strings.HasSuffix(last, " fuel") {
		wants = append(wants, last, last)
	}
	for n, want := range wants {
		if got := impl.CpuText(step); got != want || !impl.CpuOk(m, step) {
			t.Fatalf("%s: behind %d steps\n%s\nwant\n%s", name, n, got, want)
		}
		if got := impl.CpuRun(m, c, n); plain(got) != plain(step) {
			t.Errorf("%s: behind %d steps at once\n%s\nwant\n%s", name, n, plain(got), plain(step))
		}
		if got, want := impl.CpuEnd(step), impl.Exec(m, args, input, n); !impl.SameEnd(got, want) {
			t.Errorf("%s: with %d of fuel %+v; want %+v", name, n, got, want)
		}
		step = impl.CpuStep(m, step)
	}
}

func TestCpuStepOfEachOp(t *testing.T) {
	none := []int{0, 0}
	wantSteps(t, "ret 0 0 0 0", none, nil, "at 0 regs slots fuel", "at 0 regs slots done 0")
	wantSteps(t, "li 15 0 0 -7 / ret 15 0 0 0", []int{11, -4}, nil, "at 0 regs slots s0=11 s1=-4 fuel", "at 1 regs r15=-7 slots s0=11 s1=-4 fuel", "at 1 regs r15=-7 slots s0=11 s1=-4 done -7")
	wantSteps(t, "li 0 0 0 -9223372036854775808 / li 0 0 0 0 / ret 0 0 0 0", none, nil, "at 0 regs slots fuel", "at 1 regs r0=-9223372036854775808 slots fuel", "at 2 regs slots fuel", "at 2 regs slots done 0")
	wantSteps(t, "ld 2 0 0 1 / sd 2 0 0 4 / ret 2 0 0 0", []int{0, 6}, nil, "at 0 regs slots s1=6 fuel", "at 1 regs r2=6 slots s1=6 fuel", "at 2 regs r2=6 slots s1=6 s4=6 fuel", "at 2 regs r2=6 slots s1=6 s4=6 done 6")
	wantSteps(t, "ld 1 0 0 0 / mv 12 1 0 0 / mv 1 0 0 0 / ret 1 0 0 0", []int{9, 0}, nil, "at 0 regs slots s0=9 fuel", "at 1 regs r1=9 slots s0=9 fuel", "at 2 regs r1=9 r12=9 slots s0=9 fuel", "at 3 regs r12=9 slots s0=9 fuel", "at 3 regs r12=9 slots s0=9 done 0")
	// A place of the last region and of the first one, and from there.
	wantSteps(t, "li 1 0 0 1 / sx 1 1 0 1 / lx 3 1 0 1 / ret 3 0 0 0", none, nil, "at 0 regs slots fuel", "at 1 regs r1=1 slots fuel", "at 2 regs r1=1 slots m1.1=1 fuel", "at 3 regs r1=1 r3=1 slots m1.1=1 fuel", "at 3 regs r1=1 r3=1 slots m1.1=1 done 1")
	wantSteps(t, "li 1 0 0 5 / sx 1 2 0 0 / lx 1 2 0 1 / sx 1 1 0 0 / ret 2 0 0 0", none, nil, "at 0 regs slots fuel", "at 1 regs r1=5 slots fuel", "at 2 regs r1=5 slots m0.0=5 fuel", "at 3 regs slots m0.0=5 fuel", "at 4 regs slots fuel", "at 4 regs slots done 0")
	wantSteps(t, "li 1 0 0 3 / out 1 0 0 0 / out 2 0 0 0 / ret 1 0 0 0", none, nil, "at 0 regs slots fuel", "at 1 regs r1=3 slots fuel", "at 2 regs r1=3 slots fuel 3", "at 3 regs r1=3 slots fuel 3 0", "at 3 regs r1=3 slots done 3 3 0")
	for n, want := range strings.Fields("7 3 10 0 0 0") {
		regs := "r1=5 r2=2 r3=" + want
		if want == "0" {
			regs = "r1=5 r2=2"
		}
		wantSteps(t, fmt.Sprint("ld 1 0 0 0 / ld 2 0 0 1 / alu 3 1 2 ", n, " / ret 3 0 0 0"), []int{5, 2}, nil, "at 0 regs slots s0=5 s1=2 fuel", "at 1 regs r1=5 slots s0=5 s1=2 fuel", "at 2 regs r1=5 r2=2 slots s0=5 s1=2 fuel", "at 3 regs "+regs+" slots s0=5 s1=2 fuel", "at 3 regs "+regs+" slots s0=5 s1=2 done "+want)
	}
}

func TestCpuStepOfInputs(t *testing.T) {
	m := imageOf(t, "in 1 0 0 0 / in 2 0 0 0 / in 3 0 0 0 / in 3 0 0 0 / ret 3 0 0 0")
	wantStepsOf(t, "two numbers", m, []int{0, 0}, []int{8, -9}, "at 0 regs slots fuel", "at 1 regs r1=8 slots fuel", "at 2 regs r1=8 r2=-9 slots fuel", "at 3 regs r1=8 r2=-9 r3=-1 slots fuel", "at 4 regs r1=8 r2=-9 r3=-1 slots fuel", "at 4 regs r1=8 r2=-9 r3=-1 slots done -1")
	c := begun(t, "two numbers", m, []int{0, 0}, []int{8, -9})
	for n, want := range []string{"[8 -9]", "[-9]", "[]", "[]", "[]", "[]"} {
		if got := plain(impl.CpuRun(m, c, n).Input); got != want {
			t.Errorf("behind %d steps %s is left; want %s", n, got, want)
		}
	}
	// Another word reads nothing.
	if got := plain(impl.CpuRun(m, impl.CpuRun(m, c, 1), 0).Input); got != "[-9]" {
		t.Errorf("left: %s", got)
	}
	if got := plain(impl.CpuStep(wholeImage(), begun(t, "whole", wholeImage(), []int{0}, []int{3})).Input); got != "[3]" {
		t.Errorf("left: %s", got)
	}
}

func TestCpuStepOfJumps(t *testing.T) {
	none := []int{0, 0}
	wantSteps(t, "jmp 0 0 0 2 / ret 0 0 0 0 / jmp 0 0 0 1", none, nil, "at 0 regs slots fuel", "at 2 regs slots fuel", "at 1 regs slots fuel", "at 1 regs slots done 0")
	wantSteps(t, "jmp 0 0 0 1 / jmp 0 0 0 0", none, nil, "at 0 regs slots fuel", "at 1 regs slots fuel", "at 0 regs slots fuel", "at 1 regs slots fuel")
	wantSteps(t, "jmp 0 0 0 0", none, nil, "at 0 regs slots fuel", "at 0 regs slots fuel", "at 0 regs slots fuel")
	// Taken and not, forth and back.
	wantSteps(t, "jz 1 0 0 2 / ret 1 0 0 0 / li 1 0 0 4 / jz 1 0 0 0 / jmp 0 0 0 0", none, nil, "at 0 regs slots fuel", "at 2 regs slots fuel", "at 3 regs r1=4 slots fuel", "at 4 regs r1=4 slots fuel", "at 0 regs r1=4 slots fuel", "at 1 regs r1=4 slots fuel", "at 1 regs r1=4 slots done 4")
	wantSteps(t, "in 2 0 0 0 / jz 2 0 0 0 / ret 2 0 0 0", none, []int{0, math.MinInt}, "at 0 regs slots fuel", "at 1 regs slots fuel", "at 0 regs slots fuel", "at 1 regs r2=-9223372036854775808 slots fuel", "at 2 regs r2=-9223372036854775808 slots fuel", "at 2 regs r2=-9223372036854775808 slots done -9223372036854775808")
	// An OpRet in the midst, at the beginning, and one that is come to twice.
	wantSteps(t, "jmp 0 0 0 3 / ret 5 0 0 0 / out 5 0 0 0 / jmp 0 0 0 1", none, nil, "at 0 regs slots fuel", "at 3 regs slots fuel", "at 1 regs slots fuel", "at 1 regs slots done 0")
	wantSteps(t, "ret 5 0 0 0 / jmp 0 0 0 0", none, nil, "at 0 regs slots fuel", "at 0 regs slots done 0")
}

func TestCpuStepOfTraps(t *testing.T) {
	for _, op := range []string{"lx 3 1 0 ", "sx 3 1 0 "} {
		for region, size := range []int{4, 2} {
			for _, at := range []int{math.MinInt, -1, size, math.MaxInt} {
				begin, stop := fmt.Sprint("at 0 regs slots s0=", at, " s1=8 fuel"), fmt.Sprint(" regs r1=", at, " r3=8 slots s0=", at, " s1=8 ")
				// Neither the register nor a place is another one behind it, and what was put out is there still.
				wantSteps(t, fmt.Sprint("ld 1 0 0 0 / ld 3 0 0 1 / out 3 0 0 0 / ", op, region, " / out 3 0 0 0 / ret 3 0 0 0"), []int{at, 8}, nil,
					begin, fmt.Sprint("at 1 regs r1=", at, " slots s0=", at, " s1=8 fuel"), "at 2"+stop+"fuel", "at 3"+stop+"fuel 8", "at 3"+stop+"trap 8")
			}
		}
	}
	// At the first word, and at one that is jumped to.
	wantStepsOf(t, "the first word", impl.Image{Sizes: []int{1}, Code: []impl.Word{{N: -1}, {Op: impl.OpLx, R: 2}, {Op: impl.OpJmp, N: 0}}}, nil, nil, "at 0 regs slots fuel", "at 1 regs r0=-1 slots fuel", "at 1 regs r0=-1 slots trap")
	wantSteps(t, "jmp 0 0 0 2 / lx 1 1 0 0 / li 1 0 0 9 / jmp 0 0 0 1", []int{0, 0}, nil, "at 0 regs slots fuel", "at 2 regs slots fuel", "at 3 regs r1=9 slots fuel", "at 1 regs r1=9 slots fuel", "at 1 regs r1=9 slots trap")
}

func TestCpuOfManyAndOfFew(t *testing.T) {
	// No slot, one region of one place.
	wantStepsOf(t, "least", impl.Image{Sizes: []int{1}, Code: manyWords(2)}, nil, nil, "at 0 regs slots fuel", "at 1 regs slots fuel", "at 1 regs slots done 0")
	// Each register, each slot and each place has a text.
	m := impl.Image{Sizes: []int{16, 1, 3, 16}, Params: 6, Slots: impl.MaxSlots}
	c := begun(t, "most", imageWith(m, manyWords(1)), []int{1, 0, -3, 0, 0, 6}, upTo(100))
	if got, want := fmt.Sprint(len(c.Regs), len(c.Slots), len(c.Input), len(c.Mem), len(c.Mem[0]), len(c.Mem[1]), len(c.Mem[2]), len(c.Mem[3])), "16 1000 100 4 16 1 3 16"; got != want {
		t.Errorf("has %s; want %s", got, want)
	}
	want := "at 0 regs slots s0=1 s2=-3 s5=6 fuel"
	if got := impl.CpuText(c); got != want {
		t.Errorf("%s; want %s", got, want)
	}
	for _, list := range listsOf(c) {
		for i := range list {
			list[i] = i + 1
		}
	}
	if got, want := impl.CpuText(c), cpuTextAgain(c); got != want || len(impl.Words(got)) != 4+16+1000+36+1 {
		t.Errorf("%.300s; want %.300s", got, want)
	}
	if !impl.CpuOk(imageWith(m, manyWords(1)), c) {
		t.Error("most is not right")
	}
	// An image of no region is none.
	if c, ok := impl.CpuNew(impl.Image{Code: manyWords(1)}, nil, nil); ok || plain(c) != plain(impl.Cpu{}) {
		t.Errorf("no region: %+v", c)
	}
}

func imageWith(m impl.Image, code []impl.Word) impl.Image {
	m.Code = code
	return m
}

func TestCpuNewIsWhereExecIs(t *testing.T) {
	there := map[bool]int{}
	want := func(name string, m impl.Image, args []int, input []int) {
		t.Helper()
		c, ok := impl.CpuNew(m, args, input)
		if ok != (impl.Exec(m, args, input, 0).Code != impl.EndNone) || ok != impl.CpuOk(m, c) {
			t.Errorf("%s: with %d arguments and %d numbers %v", name, len(args), len(input), ok)
		}
		right := impl.Cpu{}
		if ok {
			right = cpusAgain(m, args, input, 0)[0]
		}
		if plain(c) != plain(right) {
			t.Errorf("%s: %s; want %s", name, plain(c), plain(right))
		}
		there[ok]++
	}
	inputs := [][]int{nil, {}, {4, -5}, upTo(99), upTo(100), upTo(101), make([]int, 5000)}
	for params := range 7 {
		for _, slots := range []int{params, params + 1, 40} {
			m := impl.Image{Sizes: []int{3, 1}, Params: params, Slots: slots, Code: manyWords(3)}
			for n := range 9 {
				for _, input := range inputs {
					want(fmt.Sprint(params, " parameters of ", slots), m, upTo(n), input)
				}
			}
			want("many arguments", m, make([]int, 2000), nil)
		}
	}
	someImages(func(m impl.Image) {
		want(plain(m), m, make([]int, max(0, min(m.Params, 9))), []int{1})
	})
	if there[true] < 200 || there[false] < 200 {
		t.Errorf("there: %v", there)
	}
}

// midCpu is one of wholeImage that runs, with all lists filled; each call makes it anew.
func midCpu() impl.Cpu {
	c := impl.Cpu{At: 5, Regs: upTo(16), Slots: []int{7, 8, 9}, Mem: [][]int{{1, 2, 3, 4}, {5, 6}}, Input: []int{-1, 0, 2}, Out: []int{3, 3}}
	c.Regs[15] = 1
	return c
}

// rightCpus are changes of midCpu that leave it CpuOk.
func rightCpus() map[string]func(c *impl.Cpu) {
	return map[string]func(c *impl.Cpu){
		"as it is":             func(c *impl.Cpu) {},
		"the first word":       func(c *impl.Cpu) { c.At = 0 },
		"the last word":        func(c *impl.Cpu) { c.At = 11 },
		"no input":             func(c *impl.Cpu) { c.Input = nil },
		"an empty input":       func(c *impl.Cpu) { c.Input = []int{} },
		"most input":           func(c *impl.Cpu) { c.Input = make([]int, 100) },
		"nothing out":          func(c *impl.Cpu) { c.Out = nil },
		"much out":             func(c *impl.Cpu) { c.Out = make([]int, impl.MaxFuel+1) },
		"a trap":               func(c *impl.Cpu) { c.Code = impl.EndTrap },
		"over":                 func(c *impl.Cpu) { c.At, c.Over = 11, true },
		"over with a value":    func(c *impl.Cpu) { c.At, c.Over, c.Val = 11, true, -3 },
		"over with the least":  func(c *impl.Cpu) { c.At, c.Over, c.Val = 11, true, math.MinInt },
		"over in the midst":    func(c *impl.Cpu) { c.Over, c.Val = true, 1 },
		"a trap at the first":  func(c *impl.Cpu) { c.At, c.Code = 0, impl.EndTrap },
		"far numbers":          func(c *impl.Cpu) { c.Regs[0], c.Slots[0], c.Mem[1][1] = math.MinInt, math.MaxInt, math.MinInt },
		"another slot and out": func(c *impl.Cpu) { c.Slots[2], c.Out = 0, []int{1} },
	}
}

// wrongCpus are changes of midCpu after which it is not CpuOk of wholeImage, each for one reason.
func wrongCpus() map[string]func(c *impl.Cpu) {
	return map[string]func(c *impl.Cpu){
		"the zero value":           func(c *impl.Cpu) { *c = impl.Cpu{} },
		"a word below 0":           func(c *impl.Cpu) { c.At = -1 },
		"behind the last word":     func(c *impl.Cpu) { c.At = 12 },
		"far ahead":                func(c *impl.Cpu) { c.At = math.MinInt },
		"far behind":               func(c *impl.Cpu) { c.At = math.MaxInt },
		"15 registers":             func(c *impl.Cpu) { c.Regs = c.Regs[:15] },
		"17 registers":             func(c *impl.Cpu) { c.Regs = upTo(17) },
		"no register":              func(c *impl.Cpu) { c.Regs = nil },
		"one slot less":            func(c *impl.Cpu) { c.Slots = c.Slots[:2] },
		"one slot more":            func(c *impl.Cpu) { c.Slots = upTo(4) },
		"no slot":                  func(c *impl.Cpu) { c.Slots = nil },
		"many slots":               func(c *impl.Cpu) { c.Slots = make([]int, 5000) },
		"one region less":          func(c *impl.Cpu) { c.Mem = c.Mem[:1] },
		"one region more":          func(c *impl.Cpu) { c.Mem = append(c.Mem, []int{1}) },
		"one region of none":       func(c *impl.Cpu) { c.Mem = append(c.Mem, nil) },
		"no region":                func(c *impl.Cpu) { c.Mem = nil },
		"one place less":           func(c *impl.Cpu) { c.Mem[0] = c.Mem[0][:3] },
		"one place more":           func(c *impl.Cpu) { c.Mem[1] = upTo(3) },
		"no place":                 func(c *impl.Cpu) { c.Mem[1] = nil },
		"regions in another order": func(c *impl.Cpu) { slices.Reverse(c.Mem) },
		"as many places":           func(c *impl.Cpu) { c.Mem = [][]int{upTo(3), upTo(3)} },
		"one number too many":      func(c *impl.Cpu) { c.Input = make([]int, 101) },
		"numbers too many":         func(c *impl.Cpu) { c.Input = make([]int, 9000) },
		"code fuel":                func(c *impl.Cpu) { c.Code = impl.EndFuel },
		"code none":                func(c *impl.Cpu) { c.Code = impl.EndNone },
		"code 4":                   func(c *impl.Cpu) { c.Code = 4 },
		"a code below 0":           func(c *impl.Cpu) { c.Code = -1 },
		"a far code":               func(c *impl.Cpu) { c.Code = math.MinInt },
		"over with a trap":         func(c *impl.Cpu) { c.Code, c.Over = impl.EndTrap, true },
		"over with a trap's value": func(c *impl.Cpu) { c.Code, c.Over, c.Val = impl.EndTrap, true, 1 },
		"over with fuel":           func(c *impl.Cpu) { c.Code, c.Over = impl.EndFuel, true },
		"over with none":           func(c *impl.Cpu) { c.Code, c.Over = impl.EndNone, true },
		"a value while it runs":    func(c *impl.Cpu) { c.Val = 1 },
		"a value of a trap":        func(c *impl.Cpu) { c.Code, c.Val = impl.EndTrap, -1 },
		"over behind the last":     func(c *impl.Cpu) { c.At, c.Over = 12, true },
		"a trap below 0":           func(c *impl.Cpu) { c.At, c.Code = -1, impl.EndTrap },
	}
}

func TestCpuOkOfOneChange(t *testing.T) {
	for name, change := range rightCpus() {
		c := midCpu()
		change(&c)
		if !impl.CpuOk(wholeImage(), c) {
			t.Errorf("%s: not right", name)
		}
		wantMoved(t, name, wholeImage(), c)
		for wrong, m := range wrongImages() {
			if impl.CpuOk(m, c) {
				t.Errorf("%s: right of %s", name, wrong)
			}
		}
	}
	for name, m := range wrongImages() {
		wantNoCpu(t, name, m, midCpu())
	}
	for name, change := range wrongCpus() {
		c := midCpu()
		change(&c)
		wantNoCpu(t, name, wholeImage(), c)
	}
	// A whole image is needed, whatever the Cpu needs of it.
	farImages(func(m impl.Image) { wantNoCpu(t, plain(m), m, midCpu()) })
	wantNoCpu(t, "neither", impl.Image{}, impl.Cpu{})
}

// wantMoved tells that a right Cpu goes on where it runs, and stays where it does not.
func wantMoved(t *testing.T, name string, m impl.Image, c impl.Cpu) {
	t.Helper()
	moves := c.Code == impl.EndDone && !c.Over
	if got := impl.CpuStep(m, c); (plain(got) != plain(c)) != moves || !impl.CpuOk(m, got) {
		t.Errorf("%s: a step to %.500s from %.500s", name, plain(got), plain(c))
	}
	got, met := impl.CpuBreak(m, c, c.At, 30)
	if !moves && (met || plain(got) != plain(c) || !slices.Equal(impl.Watch(m, c, 0, 30), c.Slots[:1])) {
		t.Errorf("%s: goes on to %.500s", name, plain(got))
	}
}

// wantNoCpu tells a Cpu that is not right of an image: no step changes it, and nothing is told of it.
func wantNoCpu(t *testing.T, name string, m impl.Image, c impl.Cpu) {
	t.Helper()
	if impl.CpuOk(m, c) {
		t.Errorf("%s: right", name)
	}
	want := plain(c)
	if got := impl.CpuStep(m, c); plain(got) != want {
		t.Errorf("%s: a step to %.500s", name, plain(got))
	}
	for _, n := range []int{-1, 0, 1, 50, 1000, 5000, impl.MaxFuel, impl.MaxFuel + 1} {
		if got := impl.CpuRun(m, c, n); plain(got) != want {
			t.Errorf("%s: %d steps to %.500s", name, n, plain(got))
		}
		for _, word := range []int{-1, 0, 1, 6, c.At} {
			if got, met := impl.CpuBreak(m, c, word, n); plain(got) != want || met {
				t.Errorf("%s: until %d, %d steps to %.500s", name, word, n, plain(got))
			}
		}
		wantList(t, name+": Watch", impl.Watch(m, c, 0, n))
	}
}

func TestCpuOfAnotherImage(t *testing.T) {
	m := imageOf(t, "li 1 0 0 6 / sd 1 0 0 2 / out 1 0 0 0 / ret 1 0 0 0")
	c := impl.CpuRun(m, begun(t, "own", m, []int{3, 4}, []int{8}), 2)
	for name, other := range map[string]impl.Image{
		"fewer slots":     {Sizes: []int{4, 2}, Params: 2, Slots: 4, Code: m.Code},
		"more slots":      {Sizes: []int{4, 2}, Params: 2, Slots: 6, Code: m.Code},
		"one region":      {Sizes: []int{4}, Params: 2, Slots: 5, Code: m.Code},
		"three regions":   {Sizes: []int{4, 2, 1}, Params: 2, Slots: 5, Code: m.Code},
		"another order":   {Sizes: []int{2, 4}, Params: 2, Slots: 5, Code: m.Code},
		"a greater one":   {Sizes: []int{4, 3}, Params: 2, Slots: 5, Code: m.Code},
		"too few words":   {Sizes: []int{4, 2}, Params: 2, Slots: 5, Code: manyWords(2)},
		"one word":        {Sizes: []int{4, 2}, Params: 2, Slots: 5, Code: manyWords(1)},
		"no image at all": {},
	} {
		wantNoCpu(t, name, other, c)
	}
	// Where the other one has as many of all, it goes on by that one's words, whatever its Params are.
	other := imageOf(t, "ret 0 0 0 0 / ret 0 0 0 0 / in 9 0 0 0 / ret 2 0 0 0")
	for params := range 6 {
		other.Params = params
		if got, want := impl.CpuText(impl.CpuStep(other, c)), "at 3 regs r1=6 r9=8 slots s0=3 s1=4 s2=6 fuel"; got != want || !impl.CpuOk(other, c) {
			t.Errorf("%d parameters: %s; want %s", params, got, want)
		}
		if got, want := impl.CpuText(impl.CpuRun(other, c, 100)), "at 3 regs r1=6 r9=8 slots s0=3 s1=4 s2=6 done 0"; got != want {
			t.Errorf("%d parameters: %s; want %s", params, got, want)
		}
	}
}

func TestCpuRunAtTheEdgesOfN(t *testing.T) {
	m := imageOf(t, "out 1 0 0 0 / in 1 0 0 0 / jmp 0 0 0 0")
	c := begun(t, "no end", m, []int{0, 0}, []int{4})
	for _, n := range []int{-1, math.MinInt, impl.MaxFuel + 1, math.MaxInt, 1 << 32} {
		if got := impl.CpuRun(m, c, n); plain(got) != plain(c) {
			t.Errorf("%d steps: %.300s", n, plain(got))
		}
	}
	if got := impl.CpuRun(m, c, 0); plain(got) != plain(c) {
		t.Errorf("no step: %s", plain(got))
	}
	for _, n := range []int{impl.MaxFuel - 1, impl.MaxFuel} {
		got := impl.CpuRun(m, c, n)
		if !impl.SameEnd(impl.CpuEnd(got), impl.Exec(m, []int{0, 0}, []int{4}, n)) || len(got.Out) != 33333+n%3 || got.At != n%3 || !impl.CpuOk(m, got) {
			t.Errorf("%d steps: %.300s", n, plain(got))
		}
		// A run may be longer than any fuel.
		if more := impl.CpuRun(m, got, impl.MaxFuel); len(more.Out) <= 2*33332 || !impl.Prefix(got.Out, more.Out) {
			t.Errorf("%d steps and more: %d numbers", n, len(more.Out))
		}
	}
	// An OpRet that is the last word of so many, and one behind these.
	for more, over := range map[int]bool{1: true, 2: true, 3: false} {
		m := countDown(33332, more)
		if got := impl.CpuRun(m, begun(t, "a loop", m, nil, nil), impl.MaxFuel); got.Over != over || got.At != len(m.Code)-1 || impl.CpuEnd(got).Val != impl.Exec(m, nil, nil, impl.MaxFuel).Val {
			t.Errorf("%d words more: %s", more, plain(got))
		}
	}
}

func wantBreak(t *testing.T, m impl.Image, c impl.Cpu, word int, n int, want string, met bool) {
	t.Helper()
	got, there := impl.CpuBreak(m, c, word, n)
	if impl.CpuText(got) != want || there != met {
		t.Errorf("until %d in %d steps: %s, %v; want %s, %v", word, n, impl.CpuText(got), there, want, met)
	}
}

func TestCpuBreak(t *testing.T) {
	m := imageOf(t, "ld 1 0 0 0 / li 2 0 0 1 / out 1 0 0 0 / alu 1 1 2 1 / jz 1 0 0 6 / jmp 0 0 0 2 / ret 2 0 0 0")
	c := begun(t, "a loop", m, []int{2, 0}, nil)
	wantBreak(t, m, c, 2, 100, "at 2 regs r1=2 r2=1 slots s0=2 fuel", true)
	wantBreak(t, m, c, 1, 100, "at 1 regs r1=2 slots s0=2 fuel", true)
	wantBreak(t, m, c, 1, 1, "at 1 regs r1=2 slots s0=2 fuel", true)
	// With just as many steps, with one less, and with none.
	wantBreak(t, m, c, 2, 2, "at 2 regs r1=2 r2=1 slots s0=2 fuel", true)
	wantBreak(t, m, c, 2, 1, "at 1 regs r1=2 slots s0=2 fuel", false)
	wantBreak(t, m, c, 2, 0, "at 0 regs slots s0=2 fuel", false)
	// It is at word 0 already, but not behind a step, and does not come there again.
	wantBreak(t, m, c, 0, 0, "at 0 regs slots s0=2 fuel", false)
	wantBreak(t, m, c, 0, 100, "at 6 regs r2=1 slots s0=2 done 1 2 1", false)
	// A word that one comes to again, and then no more.
	b, _ := impl.CpuBreak(m, c, 2, 100)
	wantBreak(t, m, b, 2, 0, "at 2 regs r1=2 r2=1 slots s0=2 fuel", false)
	wantBreak(t, m, b, 2, 3, "at 5 regs r1=1 r2=1 slots s0=2 fuel 2", false)
	wantBreak(t, m, b, 2, 4, "at 2 regs r1=1 r2=1 slots s0=2 fuel 2", true)
	b, _ = impl.CpuBreak(m, b, 2, 4)
	wantBreak(t, m, b, 2, 100, "at 6 regs r2=1 slots s0=2 done 1 2 1", false)
	// A word that is none.
	for _, word := range []int{-1, 7, math.MinInt, math.MaxInt} {
		wantBreak(t, m, c, word, 7, "at 3 regs r1=1 r2=1 slots s0=2 fuel 2 1", false)
		wantBreak(t, m, c, word, 100, "at 6 regs r2=1 slots s0=2 done 1 2 1", false)
	}
	// A word that goes to itself.
	m = imageOf(t, "jmp 0 0 0 0")
	wantBreak(t, m, begun(t, "itself", m, []int{0, 0}, nil), 0, 1, "at 0 regs slots fuel", true)
	wantBreak(t, m, begun(t, "itself", m, []int{0, 0}, nil), 0, 0, "at 0 regs slots fuel", false)
}

func TestCpuBreakAtTheEndOfARun(t *testing.T) {
	// Behind an OpRet, and behind a trap, At is the word that it is; that was a step, too.
	m := imageOf(t, "ld 1 0 0 0 / lx 2 1 0 0 / ret 1 0 0 0")
	for at, want := range map[int]string{3: "at 2 regs r1=3 slots s0=3 done 3", 4: "at 1 regs r1=4 slots s0=4 trap"} {
		c := begun(t, "an end", m, []int{at, 0}, nil)
		word := 5 - at
		ahead, _ := impl.CpuBreak(m, c, word, 100)
		if impl.CpuEnd(ahead).Code != impl.EndFuel || ahead.At != word {
			t.Fatalf("until %d: %s", word, plain(ahead))
		}
		wantBreak(t, m, ahead, word, 1, want, true)
		wantBreak(t, m, ahead, word, 5000, want, true)
		wantBreak(t, m, ahead, 0, 5000, want, false)
		// What runs no more has no step.
		behind, _ := impl.CpuBreak(m, ahead, word, 1)
		for _, n := range []int{0, 1, 5000} {
			wantBreak(t, m, behind, word, n, want, false)
			wantBreak(t, m, behind, 0, n, want, false)
		}
	}
}

func TestCpuBreakAtTheEdgesOfN(t *testing.T) {
	m := impl.Image{Sizes: []int{1}, Code: manyWords(6000)}
	c := begun(t, "many words", m, nil, nil)
	for _, n := range []int{4999, 5000} {
		wantBreak(t, m, c, n, n, fmt.Sprint("at ", n, " regs slots fuel"), true)
		wantBreak(t, m, c, n, n-1, fmt.Sprint("at ", n-1, " regs slots fuel"), false)
		wantBreak(t, m, c, n+1, n, fmt.Sprint("at ", n, " regs slots fuel"), false)
	}
	for _, n := range []int{-1, 5001, math.MinInt, math.MaxInt, 1 << 32, impl.MaxFuel} {
		wantBreak(t, m, c, 1, n, "at 0 regs slots fuel", false)
		wantBreak(t, m, c, 0, n, "at 0 regs slots fuel", false)
	}
}

func TestWatch(t *testing.T) {
	m := imageOf(t, "in 1 0 0 0 / sd 1 0 0 4 / sd 1 0 0 0 / jz 1 0 0 5 / jmp 0 0 0 0 / li 1 0 0 2 / sd 1 0 0 4 / lx 1 1 0 1 / ret 1 0 0 0")
	c := begun(t, "a loop", m, []int{7, 9}, []int{7, 7, -3, 7, 0})
	// Behind each step, one after the other: a value that is stored again as it is is not told again; one that is there again is.
	wantList(t, "slot 4", impl.Watch(m, c, 4, 1000), 0, 7, -3, 7, 0, 2)
	wantList(t, "slot 0", impl.Watch(m, c, 0, 1000), 7, -3, 7, 0)
	wantList(t, "slot 1", impl.Watch(m, c, 1, 1000), 9)
	wantList(t, "slot 2", impl.Watch(m, c, 2, 1000), 0)
	for n, want := range [][]int{{0}, {0}, {0, 7}, {0, 7}} {
		wantList(t, fmt.Sprint(n, " steps"), impl.Watch(m, c, 4, n), want...)
	}
	wantList(t, "11 steps", impl.Watch(m, c, 4, 11), 0, 7)
	wantList(t, "12 steps", impl.Watch(m, c, 4, 12), 0, 7, -3)
	for _, slot := range []int{-1, 5, 6, math.MinInt, math.MaxInt} {
		wantList(t, fmt.Sprint("slot ", slot), impl.Watch(m, c, slot, 10))
	}
	// From the midst on, and where it runs no more.
	wantList(t, "from the midst", impl.Watch(m, impl.CpuRun(m, c, 12), 4, 1000), -3, 7, 0, 2)
	trapped := impl.CpuRun(m, c, 1000)
	if trapped.Code != impl.EndTrap {
		t.Fatalf("no trap: %s", plain(trapped))
	}
	wantList(t, "a trap", impl.Watch(m, trapped, 4, 1000), 2)
	wantList(t, "over", impl.Watch(wholeImage(), impl.Cpu{At: 11, Regs: upTo(16), Slots: upTo(3), Mem: [][]int{upTo(4), upTo(2)}, Over: true, Val: 4}, 2, 9), 2)
	// An image without slots has none to be watched.
	m = impl.Image{Sizes: []int{1}, Code: manyWords(1)}
	wantList(t, "no slot", impl.Watch(m, begun(t, "no slot", m, nil, nil), 0, 5))
}

func TestWatchAtTheEdgesOfN(t *testing.T) {
	m := impl.Image{Sizes: []int{1}, Slots: impl.MaxSlots}
	for n := range 600 {
		m.Code = append(m.Code, impl.Word{N: n + 1}, impl.Word{Op: impl.OpSd, N: impl.MaxSlots - 1})
	}
	m.Code = append(m.Code, manyWords(1)...)
	c := begun(t, "many values", m, nil, nil)
	for _, n := range []int{0, 1, 2, 3, 999, 1000} {
		wantList(t, fmt.Sprint(n, " steps"), impl.Watch(m, c, impl.MaxSlots-1, n), upTo(1+n/2)...)
	}
	for _, n := range []int{-1, 1001, 5000, math.MinInt, math.MaxInt, 1 << 32} {
		wantList(t, fmt.Sprint(n, " steps"), impl.Watch(m, c, impl.MaxSlots-1, n))
	}
	wantList(t, "behind the last slot", impl.Watch(m, c, impl.MaxSlots, 1000))
}

func TestCpuEndAndCpuTextOfAnyCpu(t *testing.T) {
	out := []int{4, 0, -6}
	for code, words := range map[int][2]string{0: {"fuel", "done 9"}, 1: {"trap", "trap"}, 2: {"fuel", "fuel"}, 3: {"none", "none"}} {
		for i, over := range []bool{false, true} {
			c := impl.Cpu{Code: code, Over: over, Val: 9, Out: out}
			e := impl.CpuEnd(c)
			if got := impl.EndText(e); got != words[i]+" 4 0 -6" || !impl.SameEnd(e, endAgain(c)) {
				t.Errorf("%+v ends %+v", c, e)
			}
			if got := impl.CpuText(c); got != "at 0 regs slots "+words[i]+" 4 0 -6" {
				t.Errorf("%+v is told as %q", c, got)
			}
		}
	}
	// A Code that is none has no text; neither has it a blank.
	for _, code := range []int{-1, 4, math.MinInt, math.MaxInt} {
		for _, over := range []bool{false, true} {
			c := impl.Cpu{Code: code, Over: over, Val: 9, Out: out}
			if got := impl.CpuEnd(c); got.Code != code || got.Val != 0 || !slices.Equal(got.Out, out) {
				t.Errorf("%+v ends %+v", c, got)
			}
			if got := impl.CpuText(c); got != "at 0 regs slots" {
				t.Errorf("%+v is told as %q", c, got)
			}
		}
	}
	for text, c := range map[string]impl.Cpu{
		"at 0 regs slots fuel":                        {},
		"at -7 regs slots fuel":                       {At: -7, Regs: make([]int, 3), Slots: []int{}, Mem: [][]int{nil, {}, {0}}, Input: []int{5}},
		"at 9223372036854775807 regs slots done 0":    {At: math.MaxInt, Over: true},
		"at -9223372036854775808 regs slots fuel -5":  {At: math.MinInt, Out: []int{-5}},
		"at 1 regs r0=1 r2=-1 r16=3 slots s1=2 fuel":  {At: 1, Regs: append(append([]int{1, 0, -1}, make([]int, 13)...), 3), Slots: []int{0, 2}},
		"at 2 regs slots m0.1=4 m2.0=-5 m5.16=6 fuel": {At: 2, Mem: [][]int{{0, 4}, {}, {-5}, nil, {0}, append(make([]int, 16), 6)}},
	} {
		if got := impl.CpuText(c); got != text || got != cpuTextAgain(c) {
			t.Errorf("%+v is told as %q; want %q", c, got, text)
		}
	}
}
