package tests

import (
	"fmt"
	"math/rand"
	"slices"
	"strings"

	"loop.example/g00385/impl"
)

// A spot is where a step loads or stores, by the numbers that its slots have; its region is -1 for another step.
type spot struct{ region, index int }

// spotsOf does the steps of a block with these numbers in its slots, and with whatever told says for each load and each get; it tells what the slots have behind all steps, too.
func spotsOf(code []impl.Instr, slots []int, told func() int) ([]spot, []int) {
	slots = slices.Clone(slots)
	spots := []spot{}
	for _, x := range code {
		s := spot{region: -1}
		if x.Op == impl.InLoad || x.Op == impl.InStore {
			s = spot{x.N, slots[x.B]}
			if x.A >= 0 {
				s.index = around("+", s.index, slots[x.A])
			}
		}
		spots = append(spots, s)
		switch x.Op {
		case impl.InConst:
			slots[x.D] = x.N
		case impl.InMove:
			slots[x.D] = slots[x.A]
		case impl.InBin:
			slots[x.D] = around(x.Text, slots[x.A], slots[x.B])
		case impl.InLoad, impl.InGet:
			slots[x.D] = told()
		}
	}
	return spots, slots
}

// A sum is a base, or -1 for none, and what comes to it.
type sum struct{ base, offset int }

// A backTeller tells what a slot holds from behind: by the step that made it last, and by what that one used, up to the block's beginning.
type backTeller struct {
	slots int
	code  []impl.Instr
	told  map[int]sum
	fresh map[int]bool
}

func backwards(slots int, code []impl.Instr) *backTeller {
	return &backTeller{slots: slots, code: code, told: map[int]sum{}, fresh: map[int]bool{}}
}

// holds tells what a slot holds as the step begins.
func (b *backTeller) holds(slot int, step int) sum {
	if slot == -1 {
		return sum{base: -1}
	}
	for i := step - 1; i >= 0; i-- {
		if x := b.code[i]; x.D == slot && x.Op != impl.InStore && x.Op != impl.InPut {
			return b.made(i)
		}
	}
	return sum{base: slot}
}

func (b *backTeller) made(step int) sum {
	if s, ok := b.told[step]; ok {
		return s
	}
	s, ok := b.source(step)
	if !ok {
		s = sum{base: b.slots + b.freshAhead(step)}
	}
	b.told[step], b.fresh[step] = s, !ok
	return s
}

// source tells false for a step that makes a number of which nothing is known.
func (b *backTeller) source(step int) (sum, bool) {
	x := b.code[step]
	switch x.Op {
	case impl.InConst:
		return sum{-1, x.N}, true
	case impl.InMove:
		return b.holds(x.A, step), true
	case impl.InBin:
		return together(x.Text, b.holds(x.A, step), b.holds(x.B, step))
	}
	return sum{}, false
}

// together strikes a base that is there and taken away; what is left must be one base at most, and none that is taken away.
func together(sign string, a sum, b sum) (sum, bool) {
	offset := around(sign, a.offset, b.offset)
	switch {
	case a.base == -1 && b.base == -1:
		return sum{-1, offset}, true
	case sign == "+" && min(a.base, b.base) == -1:
		return sum{a.base + b.base + 1, offset}, true
	case sign == "-" && a.base == b.base:
		return sum{-1, offset}, true
	case sign == "-" && b.base == -1:
		return sum{a.base, offset}, true
	}
	return sum{}, false
}

func (b *backTeller) freshAhead(step int) int {
	count := 0
	for i, x := range b.code[:step] {
		if x.Op == impl.InStore || x.Op == impl.InPut {
			continue
		}
		b.made(i)
		if b.fresh[i] {
			count++
		}
	}
	return count
}

func (b *backTeller) places() []impl.Place {
	list := []impl.Place{}
	for i, x := range b.code {
		p := impl.Place{Region: -1}
		if x.Op == impl.InLoad || x.Op == impl.InStore {
			base, index := b.holds(x.A, i), b.holds(x.B, i)
			bases := []int{base.base, index.base}
			slices.Sort(bases)
			p = impl.Place{Region: x.N, I: bases[0], J: bases[1], Off: around("+", base.offset, index.offset)}
		}
		list = append(list, p)
	}
	return list
}

func (b *backTeller) known() []int {
	list := []int{}
	for slot := range b.slots {
		if b.holds(slot, len(b.code)).base == -1 {
			list = append(list, slot)
		}
	}
	return list
}

// clashes goes from the last step to the first, and brings the pairs into order at the end.
func (b *backTeller) clashes() [][2]int {
	pairs := [][2]int{}
	places := b.places()
	for j := len(b.code) - 1; j >= 0; j-- {
		for i := j - 1; i >= 0; i-- {
			stores := b.code[i].Op == impl.InStore || b.code[j].Op == impl.InStore
			if p, q := places[i], places[j]; stores && p.Region != -1 && q.Region != -1 && aliasOf(p, q) != "no" {
				pairs = append(pairs, [2]int{i, j})
			}
		}
	}
	slices.SortFunc(pairs, func(x [2]int, y [2]int) int { return slices.Compare(x[:], y[:]) })
	return pairs
}

// aliasOf counts in what two Places differ.
func aliasOf(p impl.Place, q impl.Place) string {
	bases := [2]int{p.I, p.J} != [2]int{q.I, q.J}
	switch {
	case p == q:
		return "must"
	case p.Region == q.Region && bases:
		return "may"
	}
	return "no"
}

// placeWord takes the bases that are -1 out of a text with all that a Place has.
func placeWord(p impl.Place) string {
	if p.Region == -1 {
		return "-"
	}
	return strings.ReplaceAll(fmt.Sprintf("r%d[b%d+b%d+%d]", p.Region, p.I, p.J, p.Off), "b-1+", "")
}

// madeCode makes the steps of a block in which many slots hold what is told of a base.
func madeCode(r *rand.Rand, g impl.Graph) []impl.Instr {
	code := []impl.Instr{}
	for range r.Intn(25) {
		x := madeStep(r, g)
		if x.Op == impl.InBin && r.Intn(3) > 0 {
			x.Text = []string{"+", "-"}[r.Intn(2)]
		}
		if x.Op == impl.InConst && r.Intn(2) > 0 {
			x.N = r.Intn(3)
		}
		code = append(code, x)
	}
	return code
}

// withCode makes a graph of that one block, which goes to itself.
func withCode(slots int, code []impl.Instr) impl.Graph {
	return impl.Graph{Sizes: []int{4, 2}, Slots: slots, Blocks: []impl.Block{{Code: code}}}
}
