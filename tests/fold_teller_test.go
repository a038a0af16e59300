package tests

import (
	"math/rand"
	"slices"

	"loop.example/g00385/impl"
)

// A backLook tells slots of a block from behind: by the step that made them last, and by what that one used; and, where none made them, by what is held of them as the block begins.
type backLook struct {
	code    []impl.Instr
	held    map[int]int
	numbers map[int]*int
	sources map[[2]int]int
}

func lookBack(code []impl.Instr, held map[int]int) backLook {
	return backLook{slices.Clone(code), held, map[int]*int{}, map[[2]int]int{}}
}

func makesSlot(x impl.Instr, slot int) bool { return fieldsOf[x.Op][0] == 's' && x.D == slot }

// number tells the one that a slot is known to have as the step begins, or nil.
func (l backLook) number(slot int, step int) *int {
	for i := step - 1; i >= 0; i-- {
		if makesSlot(l.code[i], slot) {
			return l.made(i)
		}
	}
	if n, there := l.held[slot]; there {
		return &n
	}
	return nil
}

func (l backLook) made(step int) *int {
	if n, there := l.numbers[step]; there {
		return n
	}
	x := l.code[step]
	var n *int
	switch x.Op {
	case impl.InConst:
		n = &x.N
	case impl.InMove:
		n = l.number(x.A, step)
	case impl.InBin:
		if a, b := l.number(x.A, step), l.number(x.B, step); a != nil && b != nil {
			sum := around(x.Text, *a, *b)
			n = &sum
		}
	}
	l.numbers[step] = n
	return n
}

// reckoned is Fold of a graph that is GraphOk, told a second time: step by step, from behind.
func reckoned(g impl.Graph) impl.Graph {
	return reckonedWith(g, make([]map[int]int, len(g.Blocks)))
}

// reckonedWith is told what is held of slots as each block begins.
func reckonedWith(g impl.Graph, held []map[int]int) impl.Graph {
	g = otherGraph(g)
	for at, b := range g.Blocks {
		l := lookBack(b.Code, held[at])
		if n := l.number(b.A, len(b.Code)); b.Jump == impl.JmIf && n != nil {
			to := b.To
			if *n == 0 {
				to = b.Else
			}
			g.Blocks[at] = impl.Block{Code: b.Code, To: to}
		}
		for i, x := range b.Code {
			if n := l.made(i); n != nil {
				b.Code[i] = impl.Instr{D: x.D, N: *n}
			}
		}
	}
	return g
}

// source tells of which slot a slot is a copy as the step begins: of what it was moved from, as long as neither of them is made anew.
func (l backLook) source(slot int, step int) int {
	if from, there := l.sources[[2]int{slot, step}]; there {
		return from
	}
	from := slot
	for i := step - 1; i >= 0; i-- {
		if !l.anew(slot, i) {
			continue
		}
		if l.code[i].Op == impl.InMove {
			from = l.source(l.code[i].A, i)
		}
		for j := i + 1; j < step; j++ {
			if l.anew(from, j) {
				from = slot
			}
		}
		break
	}
	l.sources[[2]int{slot, step}] = from
	return from
}

// anew tells whether a step makes a slot of anything but itself.
func (l backLook) anew(slot int, step int) bool {
	x := l.code[step]
	return makesSlot(x, slot) && (x.Op != impl.InMove || l.source(x.A, step) != slot)
}

// copied is Copies of a graph that is GraphOk, told a second time: use by use, from behind.
func copied(g impl.Graph) impl.Graph {
	g = otherGraph(g)
	for at, b := range g.Blocks {
		l := lookBack(b.Code, nil)
		if b.Jump != impl.JmGo {
			g.Blocks[at].A = l.source(b.A, len(b.Code))
		}
		for i := range b.Code {
			x := &b.Code[i]
			for field, slot := range []*int{&x.A, &x.B, &x.C} {
				if kind := fieldsOf[x.Op][field+1]; kind == 's' || kind == 'o' && *slot != -1 {
					*slot = l.source(*slot, i)
				}
			}
		}
	}
	return g
}

// levelled is Optimize of a graph that is GraphOk, told a second time.
func levelled(g impl.Graph, level int) impl.Graph {
	switch level {
	case 1:
		return cleaned(copied(reckoned(g)))
	case 2:
		f, _ := keptForward(reckoned(g))
		return trimmed(levelled(overlooked(f), 1))
	}
	return otherGraph(g)
}

// figureGraph tells a graph most of whose steps make a few slots of numbers and of each other, over and over, and which mostly ends; its last block puts all slots and places out. A seed has always the same.
func figureGraph(seed int64) (impl.Graph, []int, []int) {
	r := rand.New(rand.NewSource(seed))
	g := impl.Graph{Sizes: []int{4, 2}, Params: 2, Vars: 2 + r.Intn(2), Slots: 4 + r.Intn(3)}
	g.Blocks = make([]impl.Block, 2+r.Intn(4))
	last := len(g.Blocks) - 1
	for i := range last {
		b := impl.Block{Jump: impl.JmIf, A: r.Intn(g.Slots), To: i + 1 + r.Intn(last-i), Else: r.Intn(last + 1)}
		switch r.Intn(4) {
		case 0:
			b = impl.Block{To: b.To}
		case 1:
			b.To, b.Else = b.Else, b.To
		}
		for range r.Intn(14) {
			b.Code = append(b.Code, figureSteps(r, g)...)
		}
		g.Blocks[i] = b
	}
	g.Blocks[last] = showAll(g, 0)
	return g, someNumbers(r, 2), someNumbers(r, r.Intn(6))
}

// figureSteps are one step and, ahead of a load or a store, a number that is mostly a place.
func figureSteps(r *rand.Rand, g impl.Graph) []impl.Instr {
	x := madeStep(r, g)
	for r.Intn(4) > 0 && x.Op > impl.InBin {
		x = madeStep(r, g)
	}
	switch x.Op {
	case impl.InConst:
		if r.Intn(4) > 0 {
			x.N = r.Intn(4) - 1
		}
	case impl.InLoad, impl.InStore:
		if r.Intn(4) > 0 {
			x.A = -1
		}
		return []impl.Instr{{D: x.B, N: r.Intn(2)}, x}
	}
	return []impl.Instr{x}
}
