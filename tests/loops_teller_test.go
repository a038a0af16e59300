package tests

import (
	"math/rand"
	"slices"

	"loop.example/g00385/impl"
)

// A court tells who rules whom in a graph that is GraphOk, by other means than the program's.
type court struct {
	g     impl.Graph
	came  []int
	ahead [][]int
	rules [][]int
	ruler []int
}

func courtOf(g impl.Graph) court {
	c := court{g: g, came: comesTo(g), ahead: make([][]int, len(g.Blocks)), rules: make([][]int, len(g.Blocks))}
	for _, from := range c.came {
		for _, to := range goesTo(g.Blocks[from]) {
			c.ahead[to] = append(c.ahead[to], from)
		}
	}
	c.crown()
	c.ruler = c.rulers()
	return c
}

// crown has all rule all at first, and then takes from each what one of those ahead of it has not, until nothing changes.
func (c court) crown() {
	for _, at := range c.came {
		c.rules[at] = slices.Clone(c.came)
	}
	c.rules[0] = []int{0}
	for again := true; again; {
		again = false
		for _, at := range c.came[1:] {
			left := slices.DeleteFunc(slices.Clone(c.rules[at]), func(by int) bool {
				return by != at && slices.ContainsFunc(c.ahead[at], func(from int) bool { return !slices.Contains(c.rules[from], by) })
			})
			again = again || len(left) < len(c.rules[at])
			c.rules[at] = left
		}
	}
}

// rulers asks for each block who is ruled by just those that rule the block beside it.
func (c court) rulers() []int {
	list := []int{}
	for at := range c.g.Blocks {
		others := slices.DeleteFunc(slices.Clone(c.rules[at]), func(by int) bool { return by == at })
		i := slices.IndexFunc(others, func(by int) bool { return slices.Equal(c.rules[by], others) })
		if i < 0 {
			list = append(list, -1)
		} else {
			list = append(list, others[i])
		}
	}
	return list
}

func (c court) below(by int) []int {
	list := []int{}
	for at, rules := range c.rules {
		if slices.Contains(rules, by) {
			list = append(list, at)
		}
	}
	return list
}

// edges goes from each block that goes to another one up to that one's Ruler: all on that way, without the last, have it at their edge.
func (c court) edges() [][]int {
	edges := make([][]int, len(c.g.Blocks))
	for to, ahead := range c.ahead {
		for _, from := range ahead {
			for at := from; at != c.ruler[to]; at = c.ruler[at] {
				if !slices.Contains(edges[at], to) {
					edges[at] = append(edges[at], to)
				}
			}
		}
	}
	return edges
}

// backs goes over all pairs of blocks there are.
func (c court) backs() [][2]int {
	pairs := [][2]int{}
	for from, b := range c.g.Blocks {
		for to := range c.g.Blocks {
			if slices.Contains(goesTo(b), to) && slices.Contains(c.rules[from], to) {
				pairs = append(pairs, [2]int{from, to})
			}
		}
	}
	return pairs
}

// loop goes on from each block there is, and sees whether one comes to from without to.
func (c court) loop(from int, to int) []int {
	barred := otherGraph(c.g)
	barred.Blocks[to] = impl.Block{Jump: impl.JmRet}
	list := []int{}
	for at := range c.g.Blocks {
		// Nobody comes to an end that is the head itself without the head.
		if at == to || from != to && slices.Contains(goneTo(barred, at, nil), from) {
			list = append(list, at)
		}
	}
	return list
}

func (c court) deep() []int {
	loops := map[[2]int]bool{}
	for _, pair := range c.backs() {
		for _, at := range c.loop(pair[0], pair[1]) {
			loops[[2]int{pair[1], at}] = true
		}
	}
	deep := make([]int, len(c.g.Blocks))
	for stands := range loops {
		deep[stands[1]]++
	}
	return deep
}

// plain tells whether the blocks come down to one, where again and again a way from a block to itself is left out, and a block to which just one goes is drawn into that one.
func (c court) plain() bool {
	next := map[int][]int{}
	for _, at := range c.came {
		next[at] = goesTo(c.g.Blocks[at])
	}
	for again := true; again; {
		again = false
		for _, at := range c.came {
			if into, drawn := onlyOneAhead(next, at); drawn {
				next[into] = append(next[into], next[at]...)
				delete(next, at)
				again = true
			}
		}
	}
	return len(next) == 1
}

func onlyOneAhead(next map[int][]int, at int) (int, bool) {
	if _, there := next[at]; !there || at == 0 {
		return 0, false
	}
	ahead := []int{}
	for from, list := range next {
		next[from] = slices.DeleteFunc(list, func(to int) bool { return to == from })
		if slices.Contains(next[from], at) {
			ahead = append(ahead, from)
		}
	}
	if len(ahead) != 1 {
		return 0, false
	}
	into := ahead[0]
	next[into] = slices.DeleteFunc(next[into], func(to int) bool { return to == at })
	return into, true
}

// openWays tells all ways from block 0 on that meet no block twice; a way that meets one twice has the blocks of one that does not, and more.
func openWays(g impl.Graph, way []int, yield func(way []int)) {
	yield(way)
	for _, to := range goesTo(g.Blocks[way[len(way)-1]]) {
		if !slices.Contains(way, to) {
			openWays(g, append(slices.Clone(way), to), yield)
		}
	}
}

// onEachWay tells for each block those that all ways to it have.
func onEachWay(g impl.Graph) [][]int {
	common := make([][]int, len(g.Blocks))
	openWays(g, []int{0}, func(way []int) {
		at := way[len(way)-1]
		if common[at] == nil {
			common[at] = slices.Sorted(slices.Values(way))
		}
		common[at] = slices.DeleteFunc(common[at], func(by int) bool { return !slices.Contains(way, by) })
	})
	return common
}

// tangle makes a graph of blocks without a step, most of which go to one near them.
func tangle(seed int64, most int) impl.Graph {
	r := rand.New(rand.NewSource(seed))
	next := make([][]int, 1+r.Intn(most))
	near := 1 + r.Intn(5)
	for at := range next {
		kinds := []int{1, 1, 1, 2, 2, 2, 2, 0}
		for range kinds[r.Intn(len(kinds))] {
			to := at + 1 + r.Intn(2*near) - near/2
			if r.Intn(8) == 0 || to < 0 || to >= len(next) {
				to = r.Intn(len(next))
			}
			next[at] = append(next[at], to)
		}
	}
	return shape(next...)
}
