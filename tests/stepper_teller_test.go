package tests

import (
	"fmt"
	"slices"
	"strings"

	"loop.example/g00385/impl"
)

// cpusAgain is what a run of an image that is ImageOk has come to be ahead of its first word and behind each one, of at most n words, told a second time.
func cpusAgain(m impl.Image, args []int, input []int, n int) []impl.Cpu {
	r := newRunner(m, args, input)
	list := []impl.Cpu{r.cpu(m)}
	for len(list) <= n && !r.over {
		r.at = r.line(r.lines[r.at])
		list = append(list, r.cpu(m))
	}
	return list
}

func (r *runner) cpu(m impl.Image) impl.Cpu {
	c := impl.Cpu{At: r.at, Regs: r.named("r", 16), Slots: r.named("s", m.Slots), Input: slices.Clone(r.input), Out: slices.Clone(r.out)}
	for region, size := range m.Sizes {
		c.Mem = append(c.Mem, r.named(fmt.Sprint("m", region, "."), size))
	}
	if r.over {
		c.Code, c.Over, c.Val = r.end.Code, r.end.Code == impl.EndDone, r.end.Val
	}
	return c
}

// named tells the values of so many names that begin alike.
func (r *runner) named(name string, n int) []int {
	list := []int{}
	for i := range n {
		list = append(list, r.values[fmt.Sprint(name, i)])
	}
	return list
}

// endAgain is CpuEnd, told a second time.
func endAgain(c impl.Cpu) impl.End {
	if c.Code != impl.EndDone {
		return impl.End{Code: c.Code, Out: c.Out}
	}
	return map[bool]impl.End{true: {Val: c.Val, Out: c.Out}, false: {Code: impl.EndFuel, Out: c.Out}}[c.Over]
}

// cpuTextAgain is CpuText, told a second time.
func cpuTextAgain(c impl.Cpu) string {
	s := strings.Builder{}
	list := func(name string, list []int) {
		for i, n := range list {
			if n != 0 {
				fmt.Fprintf(&s, " %s%d=%d", name, i, n)
			}
		}
	}
	fmt.Fprintf(&s, "at %d regs", c.At)
	list("r", c.Regs)
	fmt.Fprint(&s, " slots")
	list("s", c.Slots)
	for region, places := range c.Mem {
		list(fmt.Sprint("m", region, "."), places)
	}
	if end := impl.EndText(endAgain(c)); end != "" {
		fmt.Fprint(&s, " ", end)
	}
	return s.String()
}

// watched is Watch, told a second time, of the Cpus of a run, one for each step.
func watched(list []impl.Cpu, slot int) []int {
	values := []int{list[0].Slots[slot]}
	for i := range list[1:] {
		if n := list[i+1].Slots[slot]; n != list[i].Slots[slot] {
			values = append(values, n)
		}
	}
	return values
}

// metAt tells how many steps of a run there are until it is at a word behind one; 0 where it never is.
func metAt(list []impl.Cpu, word int) int {
	return 1 + slices.IndexFunc(list[1:], func(c impl.Cpu) bool { return c.At == word })
}

// listsOf are all lists of numbers of a Cpu.
func listsOf(c impl.Cpu) [][]int {
	return slices.Concat([][]int{c.Regs, c.Slots, c.Input, c.Out}, c.Mem)
}

// roomText tells lists with the spare room behind them.
func roomText(lists [][]int) string {
	s := strings.Builder{}
	for _, list := range lists {
		fmt.Fprintln(&s, len(list), list[:cap(list)])
	}
	return s.String()
}

// roomyCpu makes a copy with spare room behind each list, and tells all that is in it.
func roomyCpu(c impl.Cpu) (impl.Cpu, func() string) {
	c.Regs, c.Slots, c.Input, c.Out = roomyList(c.Regs), roomyList(c.Slots), roomyList(c.Input), roomyList(c.Out)
	mem := make([][]int, 0, 2*len(c.Mem)+1)
	for _, places := range c.Mem {
		mem = append(mem, roomyList(places))
	}
	c.Mem = mem
	return c, func() string { return plain(c) + roomText(listsOf(c)) + plain(mem[:cap(mem)]) }
}

// spoilCpu writes over all that is in a Cpu, and into the spare room behind its lists.
func spoilCpu(c impl.Cpu) {
	for _, list := range listsOf(c) {
		spoil(list[:cap(list)])
	}
	for i := range c.Mem[:cap(c.Mem)] {
		c.Mem[:cap(c.Mem)][i] = []int{-77}
	}
}
