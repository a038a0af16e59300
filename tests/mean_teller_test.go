package tests

import (
	"math/big"

	"loop.example/g00385/impl"
)

// A tale is what a program does while fuel goes on: all that it puts out, how much of that was out ahead of each fuel that it took, and how it ended.
type tale struct {
	out   []int
	ahead []int
	end   impl.End
}

// withFuel cuts the tale where a program with so much fuel has to stop.
func (t tale) withFuel(fuel int) impl.End {
	if fuel < len(t.ahead) {
		return impl.End{Code: impl.EndFuel, Out: t.out[:t.ahead[fuel]]}
	}
	return impl.End{Code: t.end.Code, Val: t.end.Val, Out: t.out}
}

// A teller goes through a program once and panics with how it ended; numbers have no bounds while it reckons.
type teller struct {
	tale
	sizes []int
	vars  map[int]int
	cells map[[2]int]int
	input []int
	asked int
	most  int
}

// told is the tale of a program that is ProgramOk, of at most that many takes of fuel.
func told(p impl.Program, args []int, input []int, most int) (t tale) {
	r := teller{sizes: p.Sizes, vars: map[int]int{}, cells: map[[2]int]int{}, input: input, most: most}
	for i, n := range args {
		r.vars[i] = n
	}
	defer func() {
		t = r.tale
		t.end = recover().(impl.End)
	}()
	r.doAll(p.Body)
	panic(impl.End{Code: impl.EndDone})
}

func (r *teller) take() {
	r.ahead = append(r.ahead, len(r.out))
	if len(r.ahead) > r.most {
		panic(impl.End{Code: impl.EndFuel})
	}
}

func (r *teller) doAll(list []impl.Stmt) {
	for _, s := range list {
		r.do(s)
	}
}

func (r *teller) do(s impl.Stmt) {
	r.take()
	n := r.reckon(s.Exps[0])
	switch s.Kind {
	case impl.StSet:
		r.vars[s.N] = n
	case impl.StStore:
		value := r.reckon(s.Exps[1])
		r.cells[r.cell(s.N, s.Base, n)] = value
	case impl.StIf:
		if n == 0 {
			r.doAll(s.B)
		} else {
			r.doAll(s.A)
		}
	case impl.StWhile:
		if n != 0 {
			r.doAll(s.A)
			r.do(s)
		}
	case impl.StPut:
		r.out = append(r.out, n)
	case impl.StReturn:
		panic(impl.End{Code: impl.EndDone, Val: n})
	}
}

func (r *teller) cell(region int, base int, index int) [2]int {
	if base >= 0 {
		index = around("+", index, r.vars[base])
	}
	for place := range r.sizes[region] {
		if place == index {
			return [2]int{region, place}
		}
	}
	panic(impl.End{Code: impl.EndTrap})
}

func (r *teller) reckon(e impl.Exp) int {
	switch e.Kind {
	case impl.ExNum:
		return e.N
	case impl.ExVar:
		return r.vars[e.N]
	case impl.ExLoad:
		return r.cells[r.cell(e.N, e.Base, r.reckon(e.Kids[0]))]
	case impl.ExGet:
		r.asked++
		if r.asked > len(r.input) {
			return -1
		}
		return r.input[r.asked-1]
	}
	left := r.reckon(e.Kids[0])
	return around(e.Text, left, r.reckon(e.Kids[1]))
}

// around reckons without bounds, and takes the 64 lowest bits of what comes out.
func around(sign string, a int, b int) int {
	x, y, z := big.NewInt(int64(a)), big.NewInt(int64(b)), new(big.Int)
	switch sign {
	case "+":
		z.Add(x, y)
	case "-":
		z.Sub(x, y)
	case "*":
		z.Mul(x, y)
	case "&":
		z.And(x, y)
	case "==":
		if x.Cmp(y) == 0 {
			z.SetInt64(1)
		}
	case "<":
		if x.Cmp(y) < 0 {
			z.SetInt64(1)
		}
	}
	lowest := new(big.Int).And(z, new(big.Int).SetUint64(1<<64-1))
	return int(lowest.Uint64())
}
