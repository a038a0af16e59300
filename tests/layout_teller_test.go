package tests

import (
	"cmp"
	"fmt"
	"math/rand"
	"regexp"
	"slices"
	"strings"

	"loop.example/g00385/impl"
)

// countsAgain counts the blocks of a path, up to the most that are counted.
func countsAgain(g impl.Graph, path []int) []int {
	counts := []int{}
	for at := range g.Blocks {
		others := slices.DeleteFunc(slices.Clone(path[:min(1000, len(path))]), func(begun int) bool { return begun != at })
		counts = append(counts, len(others))
	}
	return counts
}

// orderAgain tells whether a list, sorted, is all blocks.
func orderAgain(g impl.Graph, order []int) bool {
	return slices.Equal(slices.Sorted(slices.Values(order)), upTo(len(g.Blocks))) && slices.Index(order, 0) == 0
}

var blockName = regexp.MustCompile("b[0-9]+")

// reorderAgain tells the text of a graph in another order: each block's lines are put where they come to stand, and each name is told anew.
func reorderAgain(g impl.Graph, order []int) string {
	named := map[string]string{}
	pieces := strings.SplitAfter(graphText(g), "\n")
	begins := []int{}
	for i, line := range pieces {
		if strings.HasSuffix(line, ":\n") {
			begins = append(begins, i)
		}
	}
	begins = append(begins, len(pieces))
	text := ""
	for i, at := range order {
		named[fmt.Sprint("b", at)] = fmt.Sprint("b", i)
		text += strings.Join(pieces[begins[at]:begins[at+1]], "")
	}
	return blockName.ReplaceAllStringFunc(text, func(name string) string { return named[name] })
}

// chainAgain has at each place all that could stand there in a row, and takes the first.
func chainAgain(g impl.Graph, counts []int) []int {
	order := []int{0}
	there := func(at int) bool { return slices.Contains(order, at) }
	for len(order) < len(g.Blocks) {
		open := slices.DeleteFunc(goesTo(g.Blocks[order[len(order)-1]]), there)
		slices.SortStableFunc(open, func(a int, b int) int { return cmp.Compare(counts[b], counts[a]) })
		rest := slices.DeleteFunc(upTo(len(g.Blocks)), there)
		order = append(order, append(open, rest...)[0])
	}
	return order
}

// fallsAgain looks for the lines that go to the name on the line behind them.
func fallsAgain(g impl.Graph) int {
	count := 0
	lines := strings.Split(graphText(g), "\n")
	for i, line := range lines {
		words := strings.Fields(line + " . . .")
		first := map[string]string{"go": words[1], "if": words[2]}[words[0]]
		if first != "" && first+":" == lines[i+1] {
			count++
		}
	}
	return count
}

func onlyGoesOn(b impl.Block) bool { return len(b.Code) == 0 && b.Jump == impl.JmGo }

// threadAgain goes on as often as there are blocks, and tells the last one that was not met ahead of that.
func threadAgain(g impl.Graph, at int) int {
	way := []int{at}
	for range g.Blocks {
		if b := g.Blocks[way[len(way)-1]]; onlyGoesOn(b) {
			way = append(way, b.To)
		}
	}
	for i, to := range slices.Backward(way) {
		if !slices.Contains(way[:i], to) {
			return to
		}
	}
	return at
}

// threadsAgain tells each name behind a go or an if of a graph's text anew.
func threadsAgain(g impl.Graph) string {
	lines := strings.Split(graphText(g), "\n")
	for i, line := range lines {
		if strings.HasPrefix(line, "go ") || strings.HasPrefix(line, "if ") {
			lines[i] = blockName.ReplaceAllStringFunc(line, func(name string) string {
				var at int
				fmt.Sscanf(name, "b%d", &at)
				return fmt.Sprint("b", threadAgain(g, at))
			})
		}
	}
	return strings.Join(lines, "\n")
}

// orders tells all lists of the numbers below n that begin with 0 and have each once.
func orders(n int, yield func(order []int)) {
	var pick func(order []int)
	pick = func(order []int) {
		if len(order) == n {
			yield(slices.Clone(order))
			return
		}
		for at := range n {
			if !slices.Contains(order, at) {
				pick(append(order, at))
			}
		}
	}
	pick([]int{0})
}

// someOrders tells all orders of few blocks, and of more some of them.
func someOrders(r *rand.Rand, n int, yield func(order []int)) {
	if n <= 4 {
		orders(n, yield)
		return
	}
	back := upTo(n)
	slices.Reverse(back[1:])
	yield(back)
	yield(upTo(n))
	for range 4 {
		rest := r.Perm(n - 1)
		order := []int{0}
		for _, at := range rest {
			order = append(order, at+1)
		}
		yield(order)
	}
}

// knotGraph tells a graph most of whose blocks have no step and go on, one behind another, around or not; the others show which they are, and take what they choose by from the input. A seed has always the same.
func knotGraph(seed int64) (impl.Graph, []int, []int) {
	r := rand.New(rand.NewSource(seed))
	g := impl.Graph{Sizes: []int{4, 2}, Params: r.Intn(3), Slots: 3}
	g.Vars = g.Params
	g.Blocks = make([]impl.Block, 1+r.Intn(12))
	some := func() int { return r.Intn(len(g.Blocks)) }
	for at := range g.Blocks {
		b := impl.Block{To: some()}
		if r.Intn(3) > 0 {
			// Mostly onward, so that more of them end.
			b.To = min(len(g.Blocks)-1, at+1+r.Intn(3))
		}
		switch r.Intn(8) {
		case 0:
			b = impl.Block{Jump: impl.JmRet, A: r.Intn(3)}
		case 1, 2:
			b.Jump, b.A, b.Else = impl.JmIf, r.Intn(3), some()
		}
		if r.Intn(3) == 0 {
			b.Code = []impl.Instr{{Op: impl.InGet, D: r.Intn(3)}, {D: 2, N: at}, {Op: impl.InPut, A: 2}, {Op: impl.InLoad, D: 2, A: -1, B: r.Intn(3)}}[:1+r.Intn(4)]
		}
		g.Blocks[at] = b
	}
	last := &g.Blocks[len(g.Blocks)-1]
	if r.Intn(4) > 0 {
		*last = impl.Block{Jump: impl.JmRet, Code: last.Code}
	}
	return g, someNumbers(r, g.Params), bits(r, r.Intn(9))
}

// bits tells numbers of which many are 0, and many small.
func bits(r *rand.Rand, n int) []int {
	list := []int{}
	for range n {
		list = append(list, []int{0, 0, 1, 2, 3, -1, 5}[r.Intn(7)])
	}
	return list
}
