package tests

import (
	"fmt"
	"math/rand"
	"slices"
	"strings"
	"testing"

	"loop.example/g00385/impl"
)

// A stroll is the tale of a graph, with the blocks that are begun.
type stroll struct {
	tale
	path []int
}

// A stroller does the lines of a graph's text, from each to the next one or to the line with a name.
type stroller struct {
	stroll
	lines  [][]string
	named  map[string]int
	values map[string]int
	sizes  map[string]int
	input  []int
	over   bool
}

// strolled is what a graph that is GraphOk does, told a second time, of at most that many takes of fuel.
func strolled(g impl.Graph, args []int, input []int, most int) stroll {
	s := stroller{named: map[string]int{}, values: map[string]int{}, sizes: map[string]int{}, input: input}
	for i, line := range strings.Split(strings.TrimSuffix(graphText(g), "\n"), "\n") {
		s.lines = append(s.lines, strings.Fields(line))
		s.named[line] = i
	}
	for i, size := range g.Sizes {
		s.sizes[fmt.Sprint("r", i)] = size
	}
	for i, n := range args {
		s.values[fmt.Sprint("s", i)] = n
	}
	for at := 0; !s.over; {
		at = s.line(at, most)
	}
	return s.stroll
}

func (s *stroller) stop(e impl.End) int {
	s.end, s.over = e, true
	return 0
}

// line tells the one that comes next.
func (s *stroller) line(at int, most int) int {
	words := s.lines[at]
	if len(words) == 1 {
		var block int
		fmt.Sscanf(words[0], "b%d:", &block)
		s.path = append(s.path, block)
		return at + 1
	}
	s.ahead = append(s.ahead, len(s.out))
	if len(s.ahead) > most {
		return s.stop(impl.End{Code: impl.EndFuel})
	}
	switch words[0] {
	case "go":
		return s.named[words[1]+":"]
	case "if":
		if s.values[words[1]] == 0 {
			return s.named[words[3]+":"]
		}
		return s.named[words[2]+":"]
	case "ret":
		return s.stop(impl.End{Code: impl.EndDone, Val: s.values[words[1]]})
	case "put":
		s.out = append(s.out, s.values[words[1]])
		return at + 1
	}
	to, there := s.name(words[0])
	n, right := s.value(words[2:])
	if !there || !right {
		return s.stop(impl.End{Code: impl.EndTrap})
	}
	s.values[to] = n
	return at + 1
}

// name tells a slot's name as it is, and a place's with the number that its slots come to; false where that is no place.
func (s *stroller) name(word string) (string, bool) {
	region, slots, cell := strings.Cut(strings.TrimSuffix(word, "]"), "[")
	if !cell {
		return word, true
	}
	index := 0
	for _, slot := range strings.Split(slots, "+") {
		index = around("+", index, s.values[slot])
	}
	return fmt.Sprint(region, " ", index), slices.Contains(upTo(s.sizes[region]), index)
}

func (s *stroller) value(words []string) (int, bool) {
	if len(words) == 3 {
		return around(words[1], s.values[words[0]], s.values[words[2]]), true
	}
	if words[0] == "get" {
		n := slices.Concat(s.input, []int{-1})[0]
		s.input = s.input[min(1, len(s.input)):]
		return n, true
	}
	var n int
	if _, err := fmt.Sscanf(words[0], "%d", &n); err == nil {
		return n, true
	}
	from, there := s.name(words[0])
	return s.values[from], there
}

func upTo(n int) []int {
	list := []int{}
	for i := range n {
		list = append(list, i)
	}
	return list
}

// graphOf reads the text of a graph with regions of 4 and of 2 places; a stroke stands for each newline.
func graphOf(t *testing.T, params int, slots int, text string) impl.Graph {
	t.Helper()
	g := impl.Graph{Sizes: []int{4, 2}, Params: params, Vars: params, Slots: slots}
	b := impl.Block{}
	for _, line := range strings.Split(text, " / ") {
		words := strings.Fields(line)
		switch words[0] {
		case fmt.Sprintf("b%d:", len(g.Blocks)):
			b = impl.Block{}
		case "go":
			fmt.Sscanf(line, "go b%d", &b.To)
			g.Blocks = append(g.Blocks, b)
		case "if":
			b.Jump = impl.JmIf
			fmt.Sscanf(line, "if s%d b%d b%d", &b.A, &b.To, &b.Else)
			g.Blocks = append(g.Blocks, b)
		case "ret":
			b.Jump = impl.JmRet
			fmt.Sscanf(line, "ret s%d", &b.A)
			g.Blocks = append(g.Blocks, b)
		default:
			b.Code = append(b.Code, stepOf(t, line))
		}
	}
	if got := graphText(g); got != strings.ReplaceAll(text, " / ", "\n")+"\n" || !impl.GraphOk(g) {
		t.Fatalf("%q is read as\n%s", text, got)
	}
	return g
}

// stepOf tries each form of a step until one has the text.
func stepOf(t *testing.T, line string) impl.Instr {
	t.Helper()
	for form := range 9 {
		x := impl.Instr{Op: []int{0, 1, 2, 3, 3, 4, 4, 5, 6}[form]}
		if form == 3 || form == 5 {
			x.A = -1
		}
		pattern := []string{"s%d = %d", "s%d = s%d", "s%d = s%d %s s%d", "s%d = r%d[s%d]", "s%d = r%d[s%d+s%d]", "r%d[s%d] = s%d", "r%d[s%d+s%d] = s%d", "s%d = get", "put s%d"}[form]
		fmt.Sscanf(line, pattern, [][]any{
			{&x.D, &x.N}, {&x.D, &x.A}, {&x.D, &x.A, &x.Text, &x.B}, {&x.D, &x.N, &x.B}, {&x.D, &x.N, &x.A, &x.B},
			{&x.N, &x.B, &x.C}, {&x.N, &x.A, &x.B, &x.C}, {&x.D}, {&x.A},
		}[form]...)
		if textOf(x) == line {
			return x
		}
	}
	t.Fatalf("%q is no step", line)
	return impl.Instr{}
}

// shape makes a graph whose blocks have no step: each goes to those of its list, or ends where that is empty.
func shape(next ...[]int) impl.Graph {
	g := impl.Graph{Sizes: []int{1}, Slots: 1}
	for _, list := range next {
		b := impl.Block{Jump: []int{impl.JmRet, impl.JmGo, impl.JmIf}[len(list)]}
		for i, to := range list {
			*[]*int{&b.To, &b.Else}[i] = to
		}
		g.Blocks = append(g.Blocks, b)
	}
	return g
}

// shapes tells all shapes of that many blocks.
func shapes(blocks int, yield func(g impl.Graph)) {
	lists := [][]int{{}}
	for to := range blocks {
		lists = append(lists, []int{to})
		for other := range blocks {
			lists = append(lists, []int{to, other})
		}
	}
	picked := make([][]int, blocks)
	var pick func(at int)
	pick = func(at int) {
		if at == blocks {
			yield(shape(picked...))
			return
		}
		for _, list := range lists {
			picked[at] = list
			pick(at + 1)
		}
	}
	pick(0)
}

// madeGraph tells a graph that no program may have, and what it is begun with; a seed has always the same.
func madeGraph(seed int64) (impl.Graph, []int, []int) {
	r := rand.New(rand.NewSource(seed))
	g := impl.Graph{Params: r.Intn(3)}
	g.Vars = g.Params + r.Intn(3)
	g.Slots = g.Vars + 1 + r.Intn(4)
	for range 1 + r.Intn(4) {
		g.Sizes = append(g.Sizes, 1+r.Intn(impl.MaxSize))
	}
	g.Blocks = make([]impl.Block, 1+r.Intn(9))
	for i := range g.Blocks {
		g.Blocks[i] = madeBlock(r, g)
	}
	return g, someNumbers(r, g.Params), someNumbers(r, r.Intn(8))
}

func madeBlock(r *rand.Rand, g impl.Graph) impl.Block {
	b := impl.Block{Jump: r.Intn(3)}
	for range r.Intn(5) {
		b.Code = append(b.Code, madeStep(r, g))
	}
	if b.Jump != impl.JmRet {
		b.To = r.Intn(len(g.Blocks))
	}
	if b.Jump == impl.JmIf {
		b.Else = r.Intn(len(g.Blocks))
	}
	if b.Jump != impl.JmGo {
		b.A = r.Intn(g.Slots)
	}
	return b
}

func madeStep(r *rand.Rand, g impl.Graph) impl.Instr {
	x := impl.Instr{Op: r.Intn(7)}
	for i, field := range []*int{&x.D, &x.A, &x.B, &x.C, &x.N} {
		switch fieldsOf[x.Op][i] {
		case 's':
			*field = r.Intn(g.Slots)
		case 'o':
			*field = max(-1, r.Intn(2*g.Slots)-g.Slots)
		case 'r':
			*field = r.Intn(len(g.Sizes))
		case 'n':
			*field = someNumber(r)
		}
	}
	if x.Op == impl.InBin {
		x.Text = []string{"==", "<", "&", "+", "-", "*"}[r.Intn(6)]
	}
	return x
}
