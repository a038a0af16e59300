package tests

import (
	"fmt"
	"slices"
	"testing"

	"loop.example/g00385/impl"
)

// A tour is a run of an image word by word, told a second time; behind its end, and behind the most words that are asked for, its last Cpu stands.
type tour struct {
	name  string
	m     impl.Image
	args  []int
	input []int
	list  []impl.Cpu
}

func newTour(name string, m impl.Image, args []int, input []int, most int) tour {
	return tour{name, m, args, input, cpusAgain(m, args, input, most)}
}

func (r tour) behind(n int) impl.Cpu { return r.list[min(n, len(r.list)-1)] }

// wantCpu holds a Cpu against that of the run behind so many words.
func (r tour) wantCpu(t *testing.T, what string, c impl.Cpu, n int) {
	t.Helper()
	if got, want := plain(c), plain(r.behind(n)); got != want {
		t.Fatalf("%s: %s with %v / %v of\n%sis\n%s\nwant, behind %d words,\n%s", r.name, what, r.args, r.input, impl.ShowCode(r.m), got, n, want)
	}
}

// wantSteps tells all that a Cpu is behind each n up to most: by its steps, at once, and what is told of it.
func (r tour) wantSteps(t *testing.T, most int) {
	t.Helper()
	c := begun(t, r.name, r.m, r.args, r.input)
	step := c
	for n := range most + 1 {
		r.wantCpu(t, "CpuStep", step, n)
		run := impl.CpuRun(r.m, c, n)
		r.wantCpu(t, "CpuRun", run, n)
		if got, want := impl.CpuEnd(run), impl.Exec(r.m, r.args, r.input, n); !impl.SameEnd(got, want) || !impl.SameEnd(got, endAgain(run)) || !impl.CpuOk(r.m, run) {
			t.Fatalf("%s: %s of\n%sends %+v; want %+v", r.name, plain(run), impl.ShowCode(r.m), got, want)
		}
		if got, want := impl.CpuText(run), cpuTextAgain(run); got != want {
			t.Fatalf("%s: %s is told as\n%s\nwant\n%s", r.name, plain(run), got, want)
		}
		for _, a := range []int{0, 1, n / 3, n / 2, n - 1} {
			if a = max(0, min(a, n)); n%4 == 0 {
				r.wantCpu(t, fmt.Sprint("CpuRun with ", a, " and then ", n-a), impl.CpuRun(r.m, impl.CpuRun(r.m, c, a), n-a), n)
			}
		}
		step = impl.CpuStep(r.m, step)
	}
}

// wantBreaks tells at which words of a few the run comes by, from some Cpu of it on; it tells how often it does.
func (r tour) wantBreaks(t *testing.T, from int, most int) int {
	t.Helper()
	met := 0
	c := r.behind(from)
	rest := r.list[min(from, len(r.list)-1):]
	for word := -1; word <= len(r.m.Code); word++ {
		n := metAt(rest, word)
		for _, steps := range []int{0, n - 1, n, most} {
			if steps < 0 || steps > most {
				continue
			}
			got, there := impl.CpuBreak(r.m, c, word, steps)
			if there != (0 < n && n <= steps) || there && got.At != word {
				t.Fatalf("%s: until %d in %d steps\n%sis met: %v; want %d steps to it", r.name, word, steps, impl.ShowCode(r.m), there, n)
			}
			if !there {
				r.wantCpu(t, fmt.Sprint("CpuBreak without ", word), got, from+steps)
				continue
			}
			met++
			r.wantCpu(t, fmt.Sprint("CpuBreak until ", word), got, from+n)
			// Going on from there comes to the same end.
			r.wantCpu(t, fmt.Sprint("behind CpuBreak until ", word), impl.CpuRun(r.m, got, most-n), from+most)
		}
	}
	return met
}

// wantWatches tells the values of all slots, from some Cpu of the run on; it tells how many changes there are.
func (r tour) wantWatches(t *testing.T, from int, most int) int {
	t.Helper()
	changes := 0
	c := r.behind(from)
	rest := r.list[min(from, len(r.list)-1):]
	for slot := range r.m.Slots {
		for _, n := range []int{0, 1, 2, 5, most / 2, most} {
			got := impl.Watch(r.m, c, slot, n)
			if want := watched(rest[:min(n+1, len(rest))], slot); !slices.Equal(got, want) {
				t.Fatalf("%s: Watch of slot %d in %d steps from %s of\n%sis %v; want %v", r.name, slot, n, plain(c), impl.ShowCode(r.m), got, want)
			}
			if got[0] != c.Slots[slot] || len(slices.Compact(slices.Clone(got))) < len(got) {
				t.Fatalf("%s: Watch of slot %d tells %v", r.name, slot, got)
			}
			changes += len(got) - 1
		}
	}
	return changes
}

// Promise 15, of images that are made.
func TestCpuIsWhatARunIs(t *testing.T) {
	t.Parallel()
	ends, met, changes := map[int]int{}, 0, 0
	for seed := range int64(seeds / 5) {
		m, args, input := madeImage(seed)
		const most = 60
		r := newTour(fmt.Sprint("seed ", seed), m, args, input, 2*most)
		r.wantSteps(t, most)
		for _, from := range []int{0, 1, 7, most} {
			met += r.wantBreaks(t, from, most)
			changes += r.wantWatches(t, from, most)
		}
		ends[impl.CpuEnd(r.behind(most)).Code]++
	}
	if ends[impl.EndDone] < seeds/50 || ends[impl.EndTrap] < seeds/150 || ends[impl.EndFuel] < seeds/50 || met < seeds || changes < seeds/2 {
		t.Errorf("ends %v, %d words met, %d changes", ends, met, changes)
	}
}

// wantSteppedGraph tells that a Cpu of the code of a graph, with slots in registers too, and behind Peep, is what a run is, and ends as the graph does. It tells how the graph ends.
func wantSteppedGraph(t *testing.T, name string, g impl.Graph, args []int, input []int) int {
	t.Helper()
	// No step has more than 5 words, no Jump more than 3, and at most 12 slots are loaded first.
	const fuel, most = 40, 5*40 + 12
	end := impl.Walk(g, args, input, fuel)
	code, with := impl.Code(g), impl.CodeWith(g, impl.Colors(g, 12))
	for kind, m := range []impl.Image{code, with, impl.Peep(code), impl.Peep(with)} {
		r := newTour(fmt.Sprint(name, " as code ", kind), m, args, input, most+1)
		c := begun(t, r.name, m, args, input)
		cost := len(r.list) - 1
		for _, n := range []int{0, 1, 2, 3, 10, 31, cost - 1, cost, most} {
			n = max(0, min(n, most))
			run := impl.CpuRun(m, c, n)
			r.wantCpu(t, "CpuRun", run, n)
			r.wantCpu(t, "CpuRun and CpuStep", impl.CpuStep(m, run), n+1)
			if !impl.SameEnd(impl.CpuEnd(run), impl.Exec(m, args, input, n)) || !impl.CpuOk(m, run) {
				t.Fatalf("%s: behind %d words of\n%s%s", r.name, n, impl.ShowCode(m), plain(run))
			}
		}
		if got := impl.CpuEnd(impl.CpuRun(m, c, most)); end.Code != impl.EndFuel && !impl.SameEnd(got, end) {
			t.Fatalf("%s\n%sends %+v; want %+v", r.name, graphText(g), got, end)
		}
		for _, word := range []int{len(m.Code) - 1, len(m.Code) / 2} {
			b, met := impl.CpuBreak(m, c, word, cost)
			if met != (metAt(r.list, word) > 0) {
				t.Fatalf("%s: until %d of\n%sis met: %v", r.name, word, impl.ShowCode(m), met)
			}
			if end.Code != impl.EndFuel {
				r.wantCpu(t, "CpuBreak and on", impl.CpuRun(m, b, impl.MaxFuel), most)
			}
		}
	}
	return end.Code
}

// Promise 15, of code of graphs.
func TestCpuOfCodeIsWhatARunIs(t *testing.T) {
	t.Parallel()
	ends := map[int]int{}
	for kind, make := range []func(seed int64) (impl.Graph, []int, []int){colorGraph, valueGraph, factGraph, memoryGraph, storeGraph, figureGraph, madeGraph} {
		for seed := range int64(seeds / 50) {
			g, args, input := make(seed + int64(kind)*seeds)
			ends[wantSteppedGraph(t, fmt.Sprint("kind ", kind, " seed ", seed), g, args, input)]++
		}
	}
	for seed := range int64(seeds / 50) {
		p, args, input := start(seed)
		if g := impl.Lower(p); impl.GraphOk(g) {
			ends[wantSteppedGraph(t, fmt.Sprint("program ", seed), g, args, input)]++
			ends[wantSteppedGraph(t, fmt.Sprint("level 2 of program ", seed), impl.Optimize(g, 2), args, input)]++
		}
	}
	if ends[impl.EndDone] < seeds/50 || ends[impl.EndTrap] < seeds/50 || ends[impl.EndFuel] < seeds/100 {
		t.Errorf("ends %v", ends)
	}
}

// anyCpu is one that may be right of an image or not, by its kind.
func anyCpu(kind int64, m impl.Image) impl.Cpu {
	c, _ := impl.CpuNew(m, upTo(max(0, min(m.Params, 9))), []int{4, 5, 6})
	switch kind % 4 {
	case 1:
		c = impl.CpuRun(m, c, 9)
		c.Out = append(c.Out, 4, 4)
	case 2:
		c = midCpu()
	case 3:
		c.Input, c.Code, c.Over = upTo(101), impl.EndTrap, true
	}
	return c
}

// stepAll tells what all functions answer that are given a Cpu.
func stepAll(m impl.Image, c impl.Cpu) string {
	b, met := impl.CpuBreak(m, c, 3, 40)
	d, _ := impl.CpuBreak(m, c, 3, -1)
	return plain([]any{impl.CpuOk(m, c), impl.CpuStep(m, c), impl.CpuRun(m, c, 30), impl.CpuRun(m, c, -1), impl.CpuEnd(c), b, met, d, impl.CpuText(c), impl.Watch(m, c, 0, 30), impl.Watch(m, c, -1, 30)})
}

func TestTheStepperWritesIntoNothing(t *testing.T) {
	kind := int64(0)
	someImages(func(m impl.Image) {
		kind++
		m, tell := roomyImage(m)
		c, tellCpu := roomyCpu(anyCpu(kind, m))
		args, input := roomyList(upTo(max(0, min(m.Params, 9)))), roomyList([]int{4, 5, 6})
		all := func() string { return tell() + tellCpu() + plain(args[:cap(args)]) + plain(input[:cap(input)]) }
		ahead := all()
		impl.CpuNew(m, args, input)
		stepAll(m, c)
		if all() != ahead {
			t.Fatalf("written into: %s of %s", plain(c), plain(m))
		}
	})
}

// wantApart tells that no two lists of a Cpu share memory: what is written into one, and behind it, stands in no other one.
func wantApart(t *testing.T, name string, c impl.Cpu) {
	t.Helper()
	for i, list := range listsOf(c) {
		others := slices.Delete(listsOf(c), i, i+1)
		ahead := roomText(others)
		spoil(list[:cap(list)])
		if roomText(others) != ahead {
			t.Fatalf("%s: list %d of an answer shares memory with another one", name, i)
		}
	}
}

// wantNewMemory tells of a Cpu that all functions share with it neither an argument nor, within one answer, a list.
func wantNewMemory(t *testing.T, name string, m impl.Image, c impl.Cpu) {
	t.Helper()
	args, input := upTo(max(0, min(m.Params, 9))), []int{4, 5, 6}
	tell := func() string {
		begin, ok := impl.CpuNew(m, args, input)
		return plain([]any{m, c, args, input, begin, ok}) + stepAll(m, c)
	}
	ahead := tell()
	for _, make := range []func() impl.Cpu{
		func() impl.Cpu { begin, _ := impl.CpuNew(m, args, input); return begin },
		func() impl.Cpu { return impl.CpuStep(m, c) },
		func() impl.Cpu { return impl.CpuRun(m, c, 0) },
		func() impl.Cpu { return impl.CpuRun(m, c, 30) },
		func() impl.Cpu { return impl.CpuRun(m, c, -1) },
		func() impl.Cpu { b, _ := impl.CpuBreak(m, c, 3, 40); return b },
		func() impl.Cpu { b, _ := impl.CpuBreak(m, c, -1, 0); return b },
		func() impl.Cpu { b, _ := impl.CpuBreak(m, c, 3, -1); return b },
	} {
		wantApart(t, name, make())
		spoilCpu(make())
	}
	out, watch := impl.CpuEnd(c).Out, impl.Watch(m, c, 0, 30)
	spoil(out[:cap(out)])
	spoil(watch[:cap(watch)])
	if tell() != ahead {
		t.Fatalf("%s: an answer shares memory with %s of %s", name, plain(c), plain(m))
	}
}

func TestAnswersOfTheStepperAreNewMemory(t *testing.T) {
	kind := int64(0)
	someImages(func(m impl.Image) {
		kind++
		wantNewMemory(t, plain(m), m, anyCpu(kind, m))
	})
	for _, changes := range []map[string]func(c *impl.Cpu){rightCpus(), wrongCpus()} {
		for name, change := range changes {
			c := midCpu()
			if change(&c); len(c.Out) < 100 {
				wantNewMemory(t, name, wholeImage(), c)
			}
		}
	}
}

func TestCpuWhoseListsShareMemory(t *testing.T) {
	// One row of numbers is all lists at once; a word changes but one of them.
	row := append(upTo(16), make([]int, 20)...)
	m := imageOf(t, "li 3 0 0 9 / sd 3 0 0 4 / sx 3 1 0 0 / sx 3 1 0 1 / out 3 0 0 0 / in 2 0 0 0 / ret 2 0 0 0")
	c := impl.Cpu{Regs: row[:16], Slots: row[:5], Mem: [][]int{row[:4], row[:2]}, Input: row[:8], Out: row[:3]}
	want := "at 6 regs r1=1 r3=9 r4=4 r5=5 r6=6 r7=7 r8=8 r9=9 r10=10 r11=11 r12=12 r13=13 r14=14 r15=15 slots s1=1 s2=2 s3=3 s4=9 m0.1=9 m0.2=2 m0.3=3 m1.1=9 done 0 0 1 2 9"
	steps := c
	for range 7 {
		steps = impl.CpuStep(m, steps)
	}
	for _, got := range []impl.Cpu{steps, impl.CpuRun(m, c, 7)} {
		if impl.CpuText(got) != want || plain(got.Input) != plain(upTo(8)[1:]) {
			t.Errorf("%s, %v is left; want %s", impl.CpuText(got), got.Input, want)
		}
	}
	wantList(t, "Watch", impl.Watch(m, c, 4, 7), 4, 9)
	wantNewMemory(t, "one row", m, c)
	// Where it is the answer itself, too.
	c.Val = 1
	wantNewMemory(t, "one row of a wrong one", m, c)
	if plain(row) != plain(append(upTo(16), make([]int, 20)...)) {
		t.Errorf("written into: %v", row)
	}
}

func TestTheStepperTellsAlikeEachTime(t *testing.T) {
	for seed := range int64(100) {
		m, args, input := madeImage(seed)
		c := begun(t, "alike", m, args, input)
		want := stepAll(m, c)
		for range 5 {
			if got := stepAll(m, c); got != want {
				t.Fatalf("of\n%sis told %s and %s", impl.ShowCode(m), want, got)
			}
		}
	}
}
