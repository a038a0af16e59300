package tests

import (
	"math/rand"
	"slices"
	"strings"

	"loop.example/g00385/impl"
)

// overlooked is DeadStores of a graph that is GraphOk, told a second time: store by store.
func overlooked(g impl.Graph) impl.Graph {
	g = otherGraph(g)
	for i, b := range g.Blocks {
		places := backwards(g.Slots, b.Code).places()
		kept := []impl.Instr{}
		for at, x := range b.Code {
			if x.Op != impl.InStore || !storedOver(b.Code, places, at) {
				kept = append(kept, x)
			}
		}
		g.Blocks[i].Code = kept
	}
	return g
}

// storedOver goes on from a store until a step stores there, may see what stands there, or puts out.
func storedOver(code []impl.Instr, places []impl.Place, at int) bool {
	for i := at + 1; i < len(code); i++ {
		alias := aliasOf(places[i], places[at])
		switch {
		case code[i].Op == impl.InPut, code[i].Op == impl.InLoad && alias != "no":
			return false
		case code[i].Op == impl.InStore && alias == "must":
			return true
		}
	}
	return false
}

// A glance is the slots of a line of a graph's text, by their names; plain where the line can do nothing but make its slot.
type glance struct {
	makes string
	uses  []string
	plain bool
}

// An outlook is all lines of a graph, block by block, the Jump behind the steps.
type outlook struct {
	lines [][]glance
	next  [][]int
}

func newOutlook(g impl.Graph) outlook {
	o := outlook{}
	for _, b := range g.Blocks {
		o.next = append(o.next, goesTo(b))
	}
	for _, line := range strings.Split(strings.TrimSuffix(graphText(g), "\n"), "\n") {
		if strings.HasSuffix(line, ":") {
			o.lines = append(o.lines, nil)
			continue
		}
		last := len(o.lines) - 1
		o.lines[last] = append(o.lines[last], glanceOf(line))
	}
	return o
}

func glanceOf(line string) glance {
	left, right, both := strings.Cut(line, " = ")
	if !both || left[0] == 'r' {
		return glance{uses: slotNames(line)}
	}
	return glance{makes: left, uses: slotNames(right), plain: right != "get" && right[0] != 'r'}
}

// slotNames takes a line apart at all that stands between two names.
func slotNames(line string) []string {
	names := []string{}
	for _, word := range strings.FieldsFunc(line, func(r rune) bool { return strings.ContainsRune(" []+", r) }) {
		if word[0] == 's' {
			names = append(names, word)
		}
	}
	return names
}

// within goes on in a block from a line, over those that are gone, and tells whether one uses the slot; or else whether none makes it.
func (o outlook) within(block int, line int, slot string, gone map[int]bool) (bool, bool) {
	for i := line; i < len(o.lines[block]); i++ {
		x := o.lines[block][i]
		switch {
		case gone[i]:
		case slices.Contains(x.uses, slot):
			return true, false
		case x.makes == slot:
			return false, false
		}
	}
	return false, true
}

// usedBehind goes each way on from the end of a block until a line uses the slot or makes it.
func (o outlook) usedBehind(block int, slot string, met map[int]bool) bool {
	for _, to := range o.next[block] {
		if met[to] {
			continue
		}
		met[to] = true
		used, on := o.within(to, 0, slot, nil)
		if used || on && o.usedBehind(to, slot, met) {
			return true
		}
	}
	return false
}

// lookedAhead is Live of a graph that is GraphOk, told a second time: slot by slot.
func lookedAhead(g impl.Graph) [][]int {
	o := newOutlook(g)
	lists := [][]int{}
	for block := range g.Blocks {
		list := []int{}
		for slot := range g.Slots {
			if o.usedBehind(block, "s"+impl.DecText(slot), map[int]bool{}) {
				list = append(list, slot)
			}
		}
		lists = append(lists, list)
	}
	return lists
}

// cleaned is Clean of a graph that is GraphOk, told a second time: step by step.
func cleaned(g impl.Graph) impl.Graph {
	o := newOutlook(g)
	g = otherGraph(g)
	for at, b := range g.Blocks {
		gone := map[int]bool{}
		kept := []impl.Instr{}
		for i := len(b.Code) - 1; i >= 0; i-- {
			slot := o.lines[at][i].makes
			used, on := o.within(at, i+1, slot, gone)
			gone[i] = o.lines[at][i].plain && !used && !(on && o.usedBehind(at, slot, map[int]bool{}))
			if !gone[i] {
				kept = slices.Insert(kept, 0, b.Code[i])
			}
		}
		g.Blocks[at].Code = kept
	}
	return g
}

// storeGraph tells a graph that stores at a few places over and over, puts out seldom, and mostly ends; its last block puts all places and slots out. A seed has always the same.
func storeGraph(seed int64) (impl.Graph, []int, []int) {
	r := rand.New(rand.NewSource(seed))
	g := impl.Graph{Sizes: []int{4, 2}, Params: 2, Vars: 2 + r.Intn(2), Slots: 4 + r.Intn(4)}
	g.Blocks = make([]impl.Block, 2+r.Intn(4))
	last := len(g.Blocks) - 1
	for i := range last {
		b := impl.Block{Jump: impl.JmIf, A: r.Intn(g.Slots), To: r.Intn(last + 1), Else: i + 1}
		if r.Intn(3) == 0 {
			b = impl.Block{To: i + 1}
		}
		for range r.Intn(16) {
			b.Code = append(b.Code, storeStep(r, g))
		}
		g.Blocks[i] = b
	}
	g.Blocks[last] = showAll(g, 0)
	few := func(n int) []int { return numbersOf(n, func() int { return r.Intn(3) }) }
	return g, few(2), few(r.Intn(9))
}

func storeStep(r *rand.Rand, g impl.Graph) impl.Instr {
	x := memoryStep(r, g)
	switch kind := r.Intn(6); {
	case kind < 2:
		x = impl.Instr{Op: impl.InStore, A: -1, B: r.Intn(3), C: r.Intn(g.Slots), N: r.Intn(2)}
	case x.Op == impl.InPut && kind > 2:
		x = impl.Instr{D: r.Intn(g.Slots), N: r.Intn(3)}
	}
	return x
}

// showAll makes a block that puts out what stands in all slots and all places, and ends.
func showAll(g impl.Graph, slot int) impl.Block {
	b := impl.Block{Jump: impl.JmRet, A: slot}
	for slot := range g.Slots {
		b.Code = append(b.Code, impl.Instr{Op: impl.InPut, A: slot})
	}
	for region, size := range g.Sizes {
		for place := range size {
			b.Code = append(b.Code, impl.Instr{D: 1, N: place}, impl.Instr{Op: impl.InLoad, D: 1, A: -1, B: 1, N: region}, impl.Instr{Op: impl.InPut, A: 1})
		}
	}
	return b
}

// valueGraph tells a graph most of whose steps only make slots, so that many of these are wanted by nobody; it goes forth, and back at times. A seed has always the same.
func valueGraph(seed int64) (impl.Graph, []int, []int) {
	r := rand.New(rand.NewSource(seed))
	g := impl.Graph{Sizes: []int{3, 2}, Params: 2, Vars: 2 + r.Intn(3), Slots: 5 + r.Intn(6)}
	g.Blocks = make([]impl.Block, 1+r.Intn(7))
	for i := range g.Blocks {
		b := impl.Block{Jump: impl.JmIf, A: r.Intn(g.Slots), To: r.Intn(len(g.Blocks)), Else: min(i+1, len(g.Blocks)-1)}
		switch r.Intn(3) {
		case 0:
			b = impl.Block{To: min(i+1, len(g.Blocks)-1)}
		case 1:
			b = impl.Block{Jump: impl.JmRet, A: r.Intn(g.Slots)}
		}
		for range r.Intn(8) {
			x := madeStep(r, g)
			if r.Intn(3) > 0 && x.Op > impl.InBin {
				x = impl.Instr{Op: impl.InBin, D: r.Intn(g.Slots), A: r.Intn(g.Slots), B: r.Intn(g.Slots), Text: "+"}
			}
			if x.Op == impl.InLoad || x.Op == impl.InStore {
				b.Code = append(b.Code, impl.Instr{D: x.B, N: r.Intn(3)})
				x.A = -1
			}
			b.Code = append(b.Code, x)
		}
		g.Blocks[i] = b
	}
	return g, someNumbers(r, 2), someNumbers(r, r.Intn(6))
}
