package tests

import (
	"math/rand"
	"slices"

	"loop.example/g00385/impl"
)

// A survey tells which slots are live at each line of a graph's text, slot by slot; names are those of all slots, behind are the slots that are live behind each block.
type survey struct {
	outlook
	names  []string
	behind [][]int
}

func surveyOf(g impl.Graph) survey {
	s := survey{outlook: newOutlook(g), behind: lookedAhead(g)}
	for slot := range g.Slots {
		s.names = append(s.names, "s"+impl.DecText(slot))
	}
	return s
}

// ahead tells the slots that are live ahead of a line of a block, which is behind the one above it; line 0 is the block's first step, or its Jump.
func (s survey) ahead(block int, line int) []int {
	list := []int{}
	for slot, name := range s.names {
		used, on := s.within(block, line, name, nil)
		if used || on && slices.Contains(s.behind[block], slot) {
			list = append(list, slot)
		}
	}
	return list
}

// liveIns is LiveIn of each block, told a second time.
func (s survey) liveIns() [][]int {
	lists := [][]int{}
	for block := range s.lines {
		lists = append(lists, s.ahead(block, 0))
	}
	return lists
}

// meets is Meets, told a second time: of each two slots, whether one is made where the other one is live behind that.
func (s survey) meets() [][]int {
	met := map[[2]int]bool{}
	first := s.ahead(0, 0)
	for _, a := range first {
		for _, b := range first {
			met[[2]int{a, b}] = true
		}
	}
	for block, lines := range s.lines {
		for i, line := range lines {
			if line.makes == "" {
				continue
			}
			a := slices.Index(s.names, line.makes)
			for _, b := range s.ahead(block, i+1) {
				met[[2]int{a, b}], met[[2]int{b, a}] = true, true
			}
		}
	}
	lists := make([][]int, len(s.names))
	for a := range s.names {
		for b := range s.names {
			if a != b && met[[2]int{a, b}] {
				lists[a] = append(lists[a], b)
			}
		}
	}
	return lists
}

// named tells whether a line of the graph uses or makes a slot.
func (s survey) named(slot int) bool {
	for _, lines := range s.lines {
		for _, line := range lines {
			if line.makes == s.names[slot] || slices.Contains(line.uses, s.names[slot]) {
				return true
			}
		}
	}
	return false
}

// colors is Colors, told a second time: from all colors those are struck out that are taken.
func (s survey) colors(meets [][]int, k int) []int {
	colors := []int{}
	for slot := range s.names {
		free := upTo(k)
		for ahead, color := range colors {
			if slices.Contains(meets[ahead], slot) {
				free = slices.DeleteFunc(free, func(c int) bool { return c == color })
			}
		}
		if !s.named(slot) {
			free = nil
		}
		colors = append(colors, append(free, -1)[0])
	}
	return colors
}

// colorsRight is ColorsOk of colors of a graph that is GraphOk, told a second time: of each two slots.
func (s survey) colorsRight(meets [][]int, colors []int) bool {
	if len(colors) != len(s.names) {
		return false
	}
	for a, color := range colors {
		if !slices.Contains(upTo(13), color+1) {
			return false
		}
		for b := range a {
			if color != -1 && colors[b] == color && slices.Contains(meets[a], b) {
				return false
			}
		}
	}
	return true
}

// spilled is Spilled of colors that are right, told a second time.
func (s survey) spilled(colors []int) []int {
	list := []int{}
	for slot, color := range colors {
		if color == -1 && s.named(slot) {
			list = append(list, slot)
		}
	}
	return list
}

// pressure is Pressure, told a second time: the most slots ahead of a line, whichever that is.
func (s survey) pressure() int {
	most := 0
	for block, lines := range s.lines {
		for line := range lines {
			most = max(most, len(s.ahead(block, line)))
		}
	}
	return most
}

// begunWith moves each block of a graph up by one, with a new block 0 that does these steps and goes on to the old one.
func begunWith(g impl.Graph, code []impl.Instr) impl.Graph {
	h := otherGraph(g)
	for i, b := range h.Blocks {
		switch b.Jump {
		case impl.JmIf:
			h.Blocks[i].To, h.Blocks[i].Else = b.To+1, b.Else+1
		case impl.JmGo:
			h.Blocks[i].To = b.To + 1
		}
	}
	h.Blocks = slices.Insert(h.Blocks, 0, impl.Block{Code: code, To: 1})
	return h
}

// inRegisters tells a graph in which all slots of one color are one slot, behind all others; those that are live at first are moved there.
func inRegisters(g impl.Graph, colors []int) impl.Graph {
	told := func(slot int) int {
		if slot >= 0 && colors[slot] != -1 {
			return g.Slots + colors[slot]
		}
		return slot
	}
	moves := []impl.Instr{}
	for _, slot := range impl.LiveIn(g, 0) {
		moves = append(moves, impl.Instr{Op: impl.InMove, D: told(slot), A: slot})
	}
	h := otherGraph(g)
	h.Slots += 12
	for at, b := range h.Blocks {
		if b.Jump != impl.JmGo {
			h.Blocks[at].A = told(b.A)
		}
		for i := range b.Code {
			x := &b.Code[i]
			for field, slot := range []*int{&x.D, &x.A, &x.B, &x.C} {
				if kind := fieldsOf[x.Op][field]; kind == 's' || kind == 'o' {
					*slot = told(*slot)
				}
			}
		}
	}
	return begunWith(h, moves)
}

// colorGraph tells a graph of up to 24 slots, of which some are never named and many meet, with jumps of all kinds, to block 0, too; it mostly ends. A seed has always the same.
func colorGraph(seed int64) (impl.Graph, []int, []int) {
	r := rand.New(rand.NewSource(seed))
	g := impl.Graph{Sizes: []int{4, 2}, Params: r.Intn(7), Slots: 6 + r.Intn(19)}
	g.Vars = g.Params
	g.Blocks = make([]impl.Block, 1+r.Intn(6))
	last := len(g.Blocks) - 1
	// A few slots alone are named in some graphs.
	pick := func() int { return r.Intn(g.Slots) }
	if few := 1 + r.Intn(g.Slots); r.Intn(3) == 0 {
		pick = func() int { return r.Intn(few) * 7 % g.Slots }
	}
	for i := range g.Blocks {
		b := impl.Block{Jump: impl.JmIf, A: pick(), To: min(i+1, last), Else: r.Intn(last + 1)}
		switch kind := r.Intn(6); {
		case i == last || kind == 0:
			b = impl.Block{Jump: impl.JmRet, A: b.A}
		case kind == 1:
			b = impl.Block{To: b.To}
		case kind == 2:
			b.To, b.Else = b.Else, b.To
		}
		for range r.Intn(24) {
			b.Code = append(b.Code, colorStep(r, g, pick)...)
		}
		g.Blocks[i] = b
	}
	return g, someNumbers(r, g.Params), someNumbers(r, r.Intn(6))
}

// colorStep is one step and, ahead of a load or a store, mostly a number that is a place.
func colorStep(r *rand.Rand, g impl.Graph, pick func() int) []impl.Instr {
	x := madeStep(r, g)
	for field, slot := range []*int{&x.D, &x.A, &x.B, &x.C} {
		if kind := fieldsOf[x.Op][field]; kind == 's' || kind == 'o' && *slot != -1 {
			*slot = pick()
		}
	}
	if x.Op == impl.InLoad || x.Op == impl.InStore {
		if r.Intn(8) > 0 {
			x.A = -1
		}
		return []impl.Instr{{D: x.B, N: r.Intn(2)}, x}
	}
	return []impl.Instr{x}
}
