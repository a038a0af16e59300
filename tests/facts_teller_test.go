package tests

import (
	"maps"
	"math/rand"
	"slices"

	"loop.example/g00385/impl"
)

// heldOf is what Facts tells of a graph that is GraphOk, told a second time: in rounds, block by block. Where nil stands, all is held still, or one does not come there.
func heldOf(g impl.Graph) []map[int]int {
	came, held := comesTo(g), make([]map[int]int, len(g.Blocks))
	held[0] = noughts(g)
	for changed := true; changed; {
		changed = false
		for _, at := range came {
			left := leftAhead(g, came, held, at)
			if held[at] == nil != (left == nil) || !maps.Equal(left, held[at]) {
				held[at], changed = left, true
			}
		}
	}
	return held
}

// noughts are the slots that a walk begins with as 0.
func noughts(g impl.Graph) map[int]int {
	held := map[int]int{}
	for slot := g.Params; slot < g.Slots; slot++ {
		held[slot] = 0
	}
	return held
}

// leftAhead tells what all that go to a block leave; nil for all.
func leftAhead(g impl.Graph, came []int, held []map[int]int, at int) map[int]int {
	var left map[int]int
	if at == 0 {
		left = noughts(g)
	}
	for _, from := range came {
		if !slices.Contains(goesTo(g.Blocks[from]), at) || held[from] == nil {
			continue
		}
		behind := heldBehind(g, from, held[from])
		if left == nil {
			left = behind
		}
		maps.DeleteFunc(left, func(slot int, n int) bool {
			m, there := behind[slot]
			return !there || m != n
		})
	}
	return left
}

func heldBehind(g impl.Graph, at int, held map[int]int) map[int]int {
	behind := map[int]int{}
	code := g.Blocks[at].Code
	l := lookBack(code, held)
	for slot := range g.Slots {
		if n := l.number(slot, len(code)); n != nil {
			behind[slot] = *n
		}
	}
	return behind
}

// factLists has what is held in the form of Facts.
func factLists(held []map[int]int) [][]impl.Fact {
	lists := [][]impl.Fact{}
	for _, row := range held {
		list := []impl.Fact{}
		for _, slot := range slices.Sorted(maps.Keys(row)) {
			list = append(list, impl.Fact{Slot: slot, Val: row[slot]})
		}
		lists = append(lists, list)
	}
	return lists
}

// onceReckoned is Twice of a graph that is GraphOk, told a second time: of each step the ones ahead of it are asked, the last first.
func onceReckoned(g impl.Graph) impl.Graph {
	told := otherGraph(g)
	for at, b := range g.Blocks {
		for i, x := range b.Code {
			for j := i - 1; j >= 0 && x.Op == impl.InBin; j-- {
				if y := b.Code[j]; y.Op == impl.InBin && y.Text == x.Text && y.A == x.A && y.B == x.B && stays(b.Code, j, i) {
					told.Blocks[at].Code[i] = impl.Instr{Op: impl.InMove, D: x.D, A: y.D}
					break
				}
			}
		}
	}
	return told
}

// stays tells whether what an InBin made is still what its slots come to, ahead of a later step.
func stays(code []impl.Instr, at int, until int) bool {
	y := code[at]
	for i := at + 1; i < until; i++ {
		if makesSlot(code[i], y.A) || makesSlot(code[i], y.B) || makesSlot(code[i], y.D) {
			return false
		}
	}
	return y.D != y.A && y.D != y.B
}

// bettered is Better of a graph that is GraphOk, told a second time.
func bettered(g impl.Graph) impl.Graph {
	return levelled(onceReckoned(reckonedWith(g, heldOf(g))), 2)
}

// factGraph tells a graph most of whose steps make few slots the same few numbers, or reckon the same twice, so that much holds over its blocks; it has jumps of all kinds, to block 0, too. A seed has always the same.
func factGraph(seed int64) (impl.Graph, []int, []int) {
	r := rand.New(rand.NewSource(seed))
	g := impl.Graph{Sizes: []int{4, 2}, Params: r.Intn(3), Slots: 5 + r.Intn(4)}
	g.Vars = g.Params + r.Intn(3)
	g.Blocks = make([]impl.Block, 2+r.Intn(6))
	last := len(g.Blocks) - 1
	for i := range last {
		b := impl.Block{Jump: impl.JmIf, A: r.Intn(g.Slots), To: i + 1 + r.Intn(last-i), Else: r.Intn(last + 1)}
		switch r.Intn(6) {
		case 0:
			b = impl.Block{To: b.To}
		case 1:
			b.To, b.Else = b.Else, b.To
		case 2:
			b.Else = b.To
		case 3:
			b = impl.Block{Jump: impl.JmRet, A: b.A}
		}
		for range r.Intn(10) {
			b.Code = append(b.Code, factStep(r, g))
		}
		g.Blocks[i] = b
	}
	g.Blocks[last] = showAll(g, 0)
	return g, someNumbers(r, g.Params), someNumbers(r, r.Intn(6))
}

func factStep(r *rand.Rand, g impl.Graph) impl.Instr {
	d, a, b := r.Intn(g.Slots), r.Intn(g.Slots), r.Intn(g.Slots)
	switch kind := r.Intn(10); {
	case kind < 4:
		// Mostly a number that hangs on the slot alone, so that several blocks make it alike.
		return impl.Instr{D: d, N: []int{d & 1, d & 1, d & 1, 2}[r.Intn(4)]}
	case kind < 6:
		return impl.Instr{Op: impl.InMove, D: d, A: a}
	case kind < 9:
		return impl.Instr{Op: impl.InBin, D: d, A: a % 2, B: 1 + b%2, Text: "+"}
	}
	x := madeStep(r, g)
	if x.Op == impl.InLoad || x.Op == impl.InStore {
		x.A = -1
	}
	return x
}

// factProgram tells the text of a program whose variables have a few numbers, over and over. A seed has always the same.
func factProgram(seed int64) string {
	r := rand.New(rand.NewSource(seed))
	return "mem a[4]; mem b[2]; fn (x, y) { let z = 3; let w = 0; let v = x + 1; " + factList(r, 2) + " put z; put w; put v; }"
}

func factList(r *rand.Rand, deep int) string {
	pick := func(list ...string) string { return list[r.Intn(len(list))] }
	value := func() string {
		return pick("0", "1", "2", "3", "z", "w", "z + 0", "w * 1", "w + w", "z - 1", "z * 0", "x + y", "x + y", "y - x", "a[w & 1]", "get")
	}
	text := ""
	for range 2 + r.Intn(5) {
		switch kind := r.Intn(12); {
		case kind < 5:
			text += pick("z", "z", "w", "w", "v", "x") + " = " + value() + "; "
		case kind < 7:
			text += "put " + value() + "; "
		case kind == 7:
			text += "a[" + pick("w & 3", "z & 3", "1") + "] = " + value() + "; "
		case kind < 10 && deep > 0:
			text += "if " + value() + " { " + factList(r, deep-1) + "} else { " + factList(r, deep-1) + "} "
		case kind == 10 && deep > 0:
			text += "while y { y = y - 1 & 3; " + factList(r, deep-1) + "} "
		case kind == 11 && r.Intn(4) == 0:
			text += "return " + value() + "; "
		}
	}
	return text
}
