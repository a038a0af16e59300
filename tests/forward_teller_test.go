package tests

import (
	"fmt"
	"math/rand"
	"slices"
	"strings"

	"loop.example/g00385/impl"
)

// A keptPair is a Place and the slot that has what stands there.
type keptPair struct {
	place impl.Place
	slot  int
}

// A keeper keeps the pairs of a block in one list, in the order in which they came; most is how many of them a load's Place was one with, at most.
type keeper struct {
	list []keptPair
	most int
}

// keptForward is Forward of a graph that is GraphOk, told a second time, and the most pairs that a load's Place was one with.
func keptForward(g impl.Graph) (impl.Graph, int) {
	g = otherGraph(g)
	most := 0
	for _, b := range g.Blocks {
		k := keeper{}
		for i, at := range backwards(g.Slots, b.Code).places() {
			b.Code[i] = k.step(b.Code[i], at)
		}
		most = max(most, k.most)
	}
	return g, most
}

func (k *keeper) step(x impl.Instr, at impl.Place) impl.Instr {
	switch x.Op {
	case impl.InStore:
		k.drop(func(p keptPair) bool { return aliasOf(p.place, at) != "no" })
		k.list = append(k.list, keptPair{at, x.C})
	case impl.InLoad:
		fits := []keptPair{}
		for _, p := range k.list {
			if aliasOf(p.place, at) == "must" {
				fits = append(fits, p)
			}
		}
		k.most = max(k.most, len(fits))
		k.drop(func(p keptPair) bool { return p.slot == x.D })
		if len(fits) > 0 {
			return impl.Instr{Op: impl.InMove, D: x.D, A: fits[0].slot}
		}
		k.list = append(k.list, keptPair{at, x.D})
	case impl.InConst, impl.InMove, impl.InBin, impl.InGet:
		k.drop(func(p keptPair) bool { return p.slot == x.D })
	}
	return x
}

func (k *keeper) drop(gone func(p keptPair) bool) { k.list = slices.DeleteFunc(k.list, gone) }

// memoryGraph tells a graph most of whose steps load and store at a few places, and which mostly ends, and what it is begun with; a seed has always the same.
func memoryGraph(seed int64) (impl.Graph, []int, []int) {
	r := rand.New(rand.NewSource(seed))
	g := impl.Graph{Sizes: []int{4, 16}, Params: 2, Vars: 2 + r.Intn(2), Slots: 4 + r.Intn(4)}
	g.Blocks = make([]impl.Block, 1+r.Intn(4))
	for i := range g.Blocks {
		b := impl.Block{Jump: impl.JmIf, A: r.Intn(g.Slots), To: r.Intn(len(g.Blocks)), Else: min(i+1, len(g.Blocks)-1)}
		if i == len(g.Blocks)-1 {
			b = impl.Block{Jump: impl.JmRet, A: r.Intn(g.Slots)}
		}
		for range r.Intn(20) {
			b.Code = append(b.Code, memoryStep(r, g))
		}
		// What a slot has wrongly is seen.
		for slot := range g.Slots {
			b.Code = append(b.Code, impl.Instr{Op: impl.InPut, A: slot})
		}
		g.Blocks[i] = b
	}
	few := func(n int) []int { return numbersOf(n, func() int { return r.Intn(4) }) }
	return g, few(2), few(r.Intn(9))
}

func memoryStep(r *rand.Rand, g impl.Graph) impl.Instr {
	x := madeStep(r, g)
	for r.Intn(3) > 0 && x.Op != impl.InLoad && x.Op != impl.InStore {
		x = madeStep(r, g)
	}
	switch x.Op {
	case impl.InConst:
		x.N = r.Intn(4)
	case impl.InBin:
		x.Text = []string{"+", "-", "&", "&", "==", "<"}[r.Intn(6)]
	case impl.InLoad, impl.InStore:
		x.B = r.Intn(3)
		if r.Intn(3) > 0 {
			x.A = -1
		}
	}
	return x
}

// memoryProgram tells the text of a program that loads and stores at a few places, over and over.
func memoryProgram(seed int64) string {
	r := rand.New(rand.NewSource(seed))
	return "mem a[4]; mem b[2]; fn (x, y) { ptr p in a = 0; ptr q in a = x; ptr o in b = 0; let z = 1; " + memoryList(r, 2) + " return z; }"
}

func memoryList(r *rand.Rand, deep int) string {
	pick := func(list ...string) string { return list[r.Intn(len(list))] }
	index := func() string {
		return pick("0", "1", "2", "x", "y", "x + 1", "1 + x", "x + 2 - 1", "x - x", "p", "q - x")
	}
	cell := func() string { return pick("a", "a", "a", "b", "p", "q", "o") + "[" + index() + "]" }
	value := func() string { return pick(cell(), cell(), cell(), index(), cell()+" + "+cell(), "get & 3") }
	list := []string{}
	for range 2 + r.Intn(10) {
		switch kind := r.Intn(12); {
		case kind < 5:
			list = append(list, cell()+" = "+value()+";")
		case kind < 7:
			list = append(list, pick("x", "y", "z", "z", "z", "p", "q", "o")+" = "+value()+";")
		case kind == 7 && deep > 0:
			list = append(list, fmt.Sprintf("if %s { %s } else { %s }", value(), memoryList(r, deep-1), memoryList(r, 0)))
		case kind == 8 && deep > 0:
			list = append(list, fmt.Sprintf("while z < 3 { %s z = z + 1; }", memoryList(r, deep-1)))
		default:
			list = append(list, "put "+value()+";")
		}
	}
	return strings.Join(list, " ")
}
