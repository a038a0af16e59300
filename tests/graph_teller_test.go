package tests

import "loop.example/g00385/impl"

// A draft is a program's steps in one row, in which marks stand where blocks begin; jumps name marks, that may be set later.
type draft struct {
	rows  []draftRow
	marks int
	slots int
}

// A draftRow is a mark that is set, a step, or a jump.
type draftRow struct {
	mark int
	step *impl.Instr
	jump *impl.Block
}

// drafted is the graph of a program that is ProgramOk, told a second time.
func drafted(p impl.Program) impl.Graph {
	d := draft{slots: p.Vars}
	d.set(d.mark())
	d.list(p.Body)
	d.jump(impl.JmRet, d.into(impl.Instr{Op: impl.InConst}), 0, 0)
	return impl.Graph{Sizes: p.Sizes, Params: p.Params, Vars: p.Vars, Slots: d.slots, Blocks: d.blocks()}
}

// mark tells a new one; 0 is none.
func (d *draft) mark() int {
	d.marks++
	return d.marks
}

func (d *draft) set(mark int) { d.rows = append(d.rows, draftRow{mark: mark}) }

func (d *draft) step(x impl.Instr) { d.rows = append(d.rows, draftRow{step: &x}) }

func (d *draft) jump(kind int, slot int, to int, other int) {
	d.rows = append(d.rows, draftRow{jump: &impl.Block{Jump: kind, A: slot, To: to, Else: other}})
}

func (d *draft) into(x impl.Instr) int {
	x.D = d.slots
	d.slots++
	d.step(x)
	return x.D
}

func (d *draft) list(list []impl.Stmt) {
	for _, s := range list {
		d.stmt(s)
	}
}

func (d *draft) stmt(s impl.Stmt) {
	switch s.Kind {
	case impl.StSet:
		d.step(impl.Instr{Op: impl.InMove, D: s.N, A: d.exp(s.Exps[0])})
	case impl.StStore:
		place := d.exp(s.Exps[0])
		d.step(impl.Instr{Op: impl.InStore, N: s.N, A: s.Base, B: place, C: d.exp(s.Exps[1])})
	case impl.StIf:
		a, b, behind := d.mark(), d.mark(), d.mark()
		d.jump(impl.JmIf, d.exp(s.Exps[0]), a, b)
		d.set(a)
		d.list(s.A)
		d.jump(impl.JmGo, 0, behind, 0)
		d.set(b)
		d.list(s.B)
		d.jump(impl.JmGo, 0, behind, 0)
		d.set(behind)
	case impl.StWhile:
		head, a, behind := d.mark(), d.mark(), d.mark()
		d.jump(impl.JmGo, 0, head, 0)
		d.set(head)
		d.jump(impl.JmIf, d.exp(s.Exps[0]), a, behind)
		d.set(a)
		d.list(s.A)
		d.jump(impl.JmGo, 0, head, 0)
		d.set(behind)
	case impl.StPut:
		d.step(impl.Instr{Op: impl.InPut, A: d.exp(s.Exps[0])})
	case impl.StReturn:
		d.jump(impl.JmRet, d.exp(s.Exps[0]), 0, 0)
		d.set(d.mark())
	}
}

func (d *draft) exp(e impl.Exp) int {
	switch e.Kind {
	case impl.ExNum:
		return d.into(impl.Instr{Op: impl.InConst, N: e.N})
	case impl.ExVar:
		return d.into(impl.Instr{Op: impl.InMove, A: e.N})
	case impl.ExLoad:
		return d.into(impl.Instr{Op: impl.InLoad, N: e.N, A: e.Base, B: d.exp(e.Kids[0])})
	case impl.ExGet:
		return d.into(impl.Instr{Op: impl.InGet})
	}
	left := d.exp(e.Kids[0])
	return d.into(impl.Instr{Op: impl.InBin, A: left, B: d.exp(e.Kids[1]), Text: e.Text})
}

// blocks cuts the row at its marks, and tells each mark as the number of its block.
func (d *draft) blocks() []impl.Block {
	number := map[int]int{}
	for _, row := range d.rows {
		if row.mark > 0 {
			number[row.mark] = len(number)
		}
	}
	list := []impl.Block{}
	code := []impl.Instr{}
	for _, row := range d.rows {
		if row.step != nil {
			code = append(code, *row.step)
		}
		if row.jump != nil {
			b := *row.jump
			b.Code, b.To, b.Else = code, number[b.To], number[b.Else]
			list = append(list, b)
			code = []impl.Instr{}
		}
	}
	return list
}
