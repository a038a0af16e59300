package tests

import (
	"fmt"
	"math/rand"
	"strconv"
	"strings"

	"loop.example/g00385/impl"
)

func num(n int) impl.Exp { return impl.Exp{Kind: impl.ExNum, N: n} }

func vari(n int) impl.Exp { return impl.Exp{Kind: impl.ExVar, N: n} }

func get() impl.Exp { return impl.Exp{Kind: impl.ExGet} }

func load(region int, base int, index impl.Exp) impl.Exp {
	return impl.Exp{Kind: impl.ExLoad, N: region, Base: base, Kids: []impl.Exp{index}}
}

func op(sign string, kids ...impl.Exp) impl.Exp {
	return impl.Exp{Kind: impl.ExOp, Text: sign, Kids: kids}
}

func set(n int, e impl.Exp) impl.Stmt {
	return impl.Stmt{Kind: impl.StSet, N: n, Exps: []impl.Exp{e}}
}

func store(region int, base int, index impl.Exp, value impl.Exp) impl.Stmt {
	return impl.Stmt{Kind: impl.StStore, N: region, Base: base, Exps: []impl.Exp{index, value}}
}

func iff(e impl.Exp, a []impl.Stmt, b []impl.Stmt) impl.Stmt {
	return impl.Stmt{Kind: impl.StIf, Exps: []impl.Exp{e}, A: a, B: b}
}

func while(e impl.Exp, a ...impl.Stmt) impl.Stmt {
	return impl.Stmt{Kind: impl.StWhile, Exps: []impl.Exp{e}, A: a}
}

func put(e impl.Exp) impl.Stmt { return impl.Stmt{Kind: impl.StPut, Exps: []impl.Exp{e}} }

func ret(e impl.Exp) impl.Stmt { return impl.Stmt{Kind: impl.StReturn, Exps: []impl.Exp{e}} }

func prog(vars int, body ...impl.Stmt) impl.Program {
	return impl.Program{Sizes: []int{4, 2}, Vars: vars, Body: body}
}

// plain tells a program or an expression so that nil and an empty list are told alike.
func plain(x any) string { return fmt.Sprintf("%+v", x) }

// A maker makes the words of a program and the program that they are, at once.
type maker struct {
	*rand.Rand
	words    []string
	variable []string
	pointer  map[string]int
}

var regionNames = []string{"a", "bb", "mem1", "z9"}

func (m *maker) say(list ...string) { m.words = append(m.words, list...) }

func (m *maker) program() impl.Program {
	p := impl.Program{Params: m.Intn(7)}
	for i := range 1 + m.Intn(4) {
		p.Sizes = append(p.Sizes, 1+m.Intn(16))
		m.say("mem", regionNames[i], "[", strconv.Itoa(p.Sizes[i]), "]", ";")
	}
	m.say("fn", "(")
	for i := range p.Params {
		if i > 0 {
			m.say(",")
		}
		m.variable = append(m.variable, "p"+strconv.Itoa(i))
		m.say(m.variable[i])
	}
	m.say(")")
	p.Body = m.list(len(p.Sizes), 3)
	p.Vars = len(m.variable)
	return p
}

func (m *maker) list(regions int, deep int) []impl.Stmt {
	m.say("{")
	list := []impl.Stmt{}
	for range m.Intn(5) {
		list = append(list, m.stmt(regions, deep))
	}
	m.say("}")
	return list
}

func (m *maker) stmt(regions int, deep int) impl.Stmt {
	kind := m.Intn(8)
	switch {
	case kind < 2 && len(m.variable) < impl.MaxVars:
		name := "v" + strconv.Itoa(len(m.variable))
		region := m.Intn(regions)
		if kind == 0 {
			m.say("let", name, "=")
		} else {
			m.say("ptr", name, "in", regionNames[region], "=")
		}
		s := set(len(m.variable), m.exp(regions, 3, 0))
		m.say(";")
		m.variable = append(m.variable, name)
		if kind == 1 {
			m.pointer[name] = region
		}
		return s
	case kind == 2 && len(m.variable) > 0:
		n := m.Intn(len(m.variable))
		m.say(m.variable[n], "=")
		s := set(n, m.exp(regions, 3, 0))
		m.say(";")
		return s
	case kind == 3:
		region, base := m.place(regions)
		m.say("[")
		index := m.exp(regions, 2, 0)
		m.say("]", "=")
		s := store(region, base, index, m.exp(regions, 3, 0))
		m.say(";")
		return s
	case kind == 4 && deep > 0:
		m.say("if")
		e := m.exp(regions, 2, 0)
		a := m.list(regions, deep-1)
		m.say("else")
		return iff(e, a, m.list(regions, deep-1))
	case kind == 5 && deep > 0:
		m.say("while")
		e := m.exp(regions, 2, 0)
		return while(e, m.list(regions, deep-1)...)
	case kind == 6:
		m.say("return")
		s := ret(m.exp(regions, 3, 0))
		m.say(";")
		return s
	}
	m.say("put")
	s := put(m.exp(regions, 3, 0))
	m.say(";")
	return s
}

func (m *maker) place(regions int) (int, int) {
	n := m.Intn(regions + len(m.variable))
	if n >= regions {
		if region, ok := m.pointer[m.variable[n-regions]]; ok {
			m.say(m.variable[n-regions])
			return region, n - regions
		}
		n %= regions
	}
	m.say(regionNames[n])
	return n, -1
}

var ranks = [][]string{{"==", "<"}, {"&", "+", "-"}, {"*"}}

// exp makes one whose loosest sign is of that rank or above; a looser one gets brackets.
func (m *maker) exp(regions int, deep int, rank int) impl.Exp {
	kind := m.Intn(10)
	switch {
	case kind < 4 && deep > 0:
		own := m.Intn(3)
		brackets := own < rank || m.Intn(5) == 0
		if brackets {
			m.say("(")
		}
		left := m.exp(regions, deep-1, max(own, 1))
		sign := ranks[own][m.Intn(len(ranks[own]))]
		m.say(sign)
		e := op(sign, left, m.exp(regions, deep-1, own+1))
		if brackets {
			m.say(")")
		}
		return e
	case kind == 4 && deep > 0:
		region, base := m.place(regions)
		m.say("[")
		e := load(region, base, m.exp(regions, deep-1, 0))
		m.say("]")
		return e
	case kind == 5:
		m.say("get")
		return get()
	case kind > 5 && len(m.variable) > 0:
		n := m.Intn(len(m.variable))
		m.say(m.variable[n])
		return vari(n)
	}
	n := m.Intn(1000)
	m.say(strconv.Itoa(n))
	return num(n)
}

// made tells the words of many programs and what each is; a seed has always the same.
func made(seed int64) ([]string, impl.Program) {
	m := maker{Rand: rand.New(rand.NewSource(seed)), pointer: map[string]int{}}
	p := m.program()
	return m.words, p
}

// other makes a copy that shares no memory and has empty lists where there is nil.
func other(p impl.Program) impl.Program {
	p.Sizes = append([]int{}, p.Sizes...)
	p.Body = otherList(p.Body)
	return p
}

func otherList(list []impl.Stmt) []impl.Stmt {
	made := []impl.Stmt{}
	for _, s := range list {
		s.Exps, s.A, s.B = otherExps(s.Exps), otherList(s.A), otherList(s.B)
		made = append(made, s)
	}
	return made
}

func otherExps(list []impl.Exp) []impl.Exp {
	made := []impl.Exp{}
	for _, e := range list {
		e.Text, e.Kids = strings.Clone(e.Text), otherExps(e.Kids)
		made = append(made, e)
	}
	return made
}

// fill writes into the spare room behind each list of a program.
func fill(p *impl.Program) {
	_ = append(p.Sizes, -7)
	fillList(p.Body)
}

func fillList(list []impl.Stmt) {
	_ = append(list, impl.Stmt{Kind: -7})
	for _, s := range list {
		fillExps(s.Exps)
		fillList(s.A)
		fillList(s.B)
	}
}

func fillExps(list []impl.Exp) {
	_ = append(list, impl.Exp{Kind: -7})
	for _, e := range list {
		fillExps(e.Kids)
	}
}
