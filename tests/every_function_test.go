package tests

import (
	"fmt"
	"go/ast"
	"go/parser"
	"go/token"
	"maps"
	"math"
	"math/rand"
	"path/filepath"
	"reflect"
	"slices"
	"strings"
	"testing"
	"unsafe"

	"loop.example/g00385/impl"
)

// everyFunction has each exported function of each chapter.
func everyFunction() map[string]any {
	return map[string]any{
		"IsWord": impl.IsWord, "NameOk": impl.NameOk, "Lex": impl.Lex, "DecText": impl.DecText, "ReadInt": impl.ReadInt, "Words": impl.Words,
		"Parse": impl.Parse, "ProgramOk": impl.ProgramOk, "ShowProgram": impl.ShowProgram, "SameProgram": impl.SameProgram, "ExpOk": impl.ExpOk, "ShowExp": impl.ShowExp, "SameExp": impl.SameExp, "SizeOf": impl.SizeOf, "VarsOf": impl.VarsOf, "Sets": impl.Sets, "Touches": impl.Touches,
		"Bin": impl.Bin, "Mean": impl.Mean, "SameEnd": impl.SameEnd, "EndText": impl.EndText, "Again": impl.Again, "Needs": impl.Needs, "Prefix": impl.Prefix,
		"GraphOk": impl.GraphOk, "Lower": impl.Lower, "ShowGraph": impl.ShowGraph, "InstrOk": impl.InstrOk, "BlockOk": impl.BlockOk, "Uses": impl.Uses, "Makes": impl.Makes, "ShowInstr": impl.ShowInstr, "SameGraph": impl.SameGraph, "MaxSlot": impl.MaxSlot,
		"Walk": impl.Walk, "Steps": impl.Steps, "Blocks": impl.Blocks, "Trim": impl.Trim, "Next": impl.Next, "Ahead": impl.Ahead, "Order": impl.Order, "Path": impl.Path,
		"Places": impl.Places, "Alias": impl.Alias, "PlaceText": impl.PlaceText, "AliasText": impl.AliasText, "Known": impl.Known, "Fresh": impl.Fresh, "Clash": impl.Clash,
		"Forward": impl.Forward, "Loads": impl.Loads, "Stores": impl.Stores, "DeadStores": impl.DeadStores, "Live": impl.Live, "Clean": impl.Clean, "Fold": impl.Fold, "Copies": impl.Copies, "Optimize": impl.Optimize, "Weight": impl.Weight,
		"Rules": impl.Rules, "Ruler": impl.Ruler, "Below": impl.Below, "Edge": impl.Edge, "Backs": impl.Backs, "Loop": impl.Loop, "Deep": impl.Deep, "Plain": impl.Plain,
		"Facts": impl.Facts, "FoldAll": impl.FoldAll, "Twice": impl.Twice, "Better": impl.Better, "FactText": impl.FactText,
		"LiveIn": impl.LiveIn, "Meets": impl.Meets, "Colors": impl.Colors, "ColorsOk": impl.ColorsOk, "Spilled": impl.Spilled, "Pressure": impl.Pressure,
		"ImageOk": impl.ImageOk, "Code": impl.Code, "CodeWith": impl.CodeWith, "Peep": impl.Peep, "ShowCode": impl.ShowCode, "CountOp": impl.CountOp, "Aims": impl.Aims, "Dead": impl.Dead, "SameImage": impl.SameImage,
		"Exec": impl.Exec, "Cost": impl.Cost, "PutImage": impl.PutImage, "GetImage": impl.GetImage, "Sum": impl.Sum,
		"CpuNew": impl.CpuNew, "CpuOk": impl.CpuOk, "CpuStep": impl.CpuStep, "CpuRun": impl.CpuRun, "CpuEnd": impl.CpuEnd, "CpuBreak": impl.CpuBreak, "CpuText": impl.CpuText, "Watch": impl.Watch,
		"Counts": impl.Counts, "OrderOk": impl.OrderOk, "Reorder": impl.Reorder, "Chain": impl.Chain, "Layout": impl.Layout, "Falls": impl.Falls, "Threads": impl.Threads,
		"Asm": impl.Asm, "ReadAsm": impl.ReadAsm, "AsmWord": impl.AsmWord, "ReadNum": impl.ReadNum, "Build": impl.Build, "Level": impl.Level, "Desk": impl.Desk,
	}
}

func TestEveryFunctionIsThere(t *testing.T) {
	files, _ := filepath.Glob("../impl/*.go")
	found := []string{}
	for _, file := range files {
		parsed, err := parser.ParseFile(token.NewFileSet(), file, nil, 0)
		if err != nil {
			t.Fatal(err)
		}
		for _, d := range parsed.Decls {
			if f, ok := d.(*ast.FuncDecl); ok && f.Recv == nil && f.Name.IsExported() {
				found = append(found, f.Name.Name)
			}
		}
	}
	slices.Sort(found)
	if want := slices.Sorted(maps.Keys(everyFunction())); len(files) != 18 || !slices.Equal(found, want) {
		t.Errorf("%d files have %v; want %v", len(files), found, want)
	}
}

// A kit has values of each type that a function takes: right ones, wrong ones, and ones that no function would give.
type kit map[reflect.Type][]any

func (k kit) add(list ...any) {
	for _, x := range list {
		k[reflect.TypeOf(x)] = append(k[reflect.TypeOf(x)], x)
	}
}

// madeKits tells families of values that belong together, and behind them one kit with all there are.
func madeKits() []kit {
	kits := []kit{}
	texts := []string{deskText, manySteps(1), manyBlocks(2), manySlots(1), manySlots(2), "mem a[4]; mem b[2]; fn (x, y) { ptr p in a = x; while y { p[0] = get; y = y - 1; b[y & 1] = a[x]; } return p[0] + b[1]; }"}
	for seed := range int64(8) {
		texts = append(texts, madeText(seed))
	}
	for _, s := range texts {
		k := kit{}
		k.addProgram(s)
		kits = append(kits, k)
	}
	for seed := range int64(4) {
		k := kit{}
		g, args, input := madeGraph(seed)
		k.add(g, args, input, impl.Order(g), impl.Colors(g, 3))
		kits = append(kits, k)
		k = kit{}
		m, args, input := madeImage(seed)
		c, _ := impl.CpuNew(m, args, input)
		k.add(m, args, input, c, impl.CpuRun(m, c, 9), impl.CpuRun(m, c, 200), impl.Asm(m), impl.PutImage(m))
		kits = append(kits, k)
	}
	kits = append(kits, cpuKit())
	all := kit{}
	for _, k := range kits {
		for kind, list := range k {
			all[kind] = append(all[kind], list...)
		}
	}
	all.addTexts()
	all.addNumbers()
	all.addWrong()
	return append(kits, all)
}

// cpuKit has an image, and its right and its wrong Cpus.
func cpuKit() kit {
	k := kit{}
	k.add(wholeImage())
	for _, changes := range []map[string]func(c *impl.Cpu){rightCpus(), wrongCpus()} {
		for _, name := range slices.Sorted(maps.Keys(changes)) {
			c := midCpu()
			changes[name](&c)
			if len(c.Out) < 1000 {
				k.add(c)
			}
		}
	}
	return k
}

// pick tells a value of a type: of its own where it has one, else one of all.
func (k kit) pick(r *rand.Rand, kind reflect.Type, all kit) reflect.Value {
	list := k[kind]
	if len(list) == 0 || r.Intn(6) == 0 {
		list = all[kind]
	}
	return reflect.ValueOf(list[r.Intn(len(list))])
}

// addProgram adds all that comes of a program's text.
func (k kit) addProgram(s string) {
	p, _ := impl.Parse(s)
	k.add(s, s+"--\nmean 1 /\nexec 3 0 0 / 1 2\nshow\nrules 2 1\n", p, impl.ShowProgram(p))
	for _, stmt := range p.Body {
		for _, e := range stmt.Exps {
			k.add(e)
		}
	}
	for level := range 4 {
		g := impl.Level(p, level)
		m, _ := impl.Build(s, level)
		k.add(g, m, impl.Colors(g, 12), impl.Colors(g, 2), impl.Counts(g, make([]int, g.Params), nil), impl.Order(g))
		c, _ := impl.CpuNew(m, make([]int, m.Params), []int{1, 2, 3})
		k.add(c, impl.CpuRun(m, c, 20), impl.Exec(m, make([]int, m.Params), nil, 100))
		for _, b := range g.Blocks[:min(3, len(g.Blocks))] {
			k.add(b)
			for _, x := range b.Code[:min(4, len(b.Code))] {
				k.add(x)
			}
		}
		for at := range min(3, len(g.Blocks)) {
			for _, place := range impl.Places(g, at) {
				k.add(place)
			}
		}
		if facts := impl.Facts(g); len(facts) > 0 {
			k.add(facts[len(facts)-1], facts[0])
		}
		if len(m.Code) < 100 {
			k.add(impl.Asm(m), impl.PutImage(m))
		}
	}
}

func (k kit) addTexts() {
	for _, s := range []string{"", "\n", " ", "--\n", "x", "mem", "fn", "a1", "abcdefgh", "abcdefghi", "+", "-", "*", "&", "==", "<", "/", "%", "0", "-1", "-0", "999999", "1000000", "9223372036854775807", "9223372036854775808", "mem a[4];\nfn (x) {\n", "long", "\xff\xfe\x00", "a b  c", "mem\nparams 0\nslots 0\nret r0\n"} {
		k.add(s)
	}
	k.add(everyByte(), strings.Repeat("(", 3000), strings.Repeat("a", 3001), strings.Repeat("\n", 200), strings.Repeat("\n", 201), strings.Repeat(" ", 7999)+"\n", strings.Repeat(" ", 8000)+"\n", strings.Repeat("mem 1\n", 2000), strings.Repeat("\x00", 4000), deskText+"--\n"+strings.Repeat("show\n", 150))
}

func (k kit) addNumbers() {
	for _, n := range []int{math.MinInt, math.MinInt + 1, -1000000, -2, -1, 0, 0, 1, 1, 2, 2, 3, 3, 4, 5, 6, 7, 9, 10, 11, 12, 13, 16, 17, 50, 59, 60, 61, 100, 255, 299, 300, 301, 999, 1000, 1001, 5000, 5001, 5999, 6000, 99999, 100000, 100001, 1 << 31, 1 << 32, math.MaxInt - 1, math.MaxInt} {
		k.add(n)
	}
	for n := range 8 {
		k.add(upTo(n), make([]int, n))
	}
	k.add([]int(nil), []int(nil), []int{}, []int{1}, []int{0, 0}, []int{3, 1}, []int{-1}, []int{-1, -1, -1}, []int{math.MinInt, math.MaxInt}, make([]int, 100), make([]int, 101), upTo(1000), make([]int, 20000), slices.Repeat([]int{-1}, 10), []int{0, 2, 1, 3}, []int{12}, []int{11, 11})
	k.add([]impl.Fact(nil), []impl.Fact{}, []impl.Fact{{}}, []impl.Fact{{Slot: math.MinInt, Val: math.MaxInt}, {Slot: -1}, {Slot: -1}}, make([]impl.Fact, 3000))
	far := []int{math.MinInt, -1, 0, 1, 5, math.MaxInt}
	for i := range far {
		k.add(impl.Place{Region: far[i], I: far[(i+1)%6], J: far[(i+2)%6], Off: far[(i+3)%6]}, impl.Place{Region: far[i]})
		k.add(impl.End{Code: far[i], Val: far[(i+1)%6], Out: far[:i]}, impl.End{Code: i - 1, Out: []int{1, 2}}, impl.End{Code: i, Val: 7})
		k.add(impl.Block{Jump: far[i], A: far[(i+1)%6], To: far[(i+2)%6], Else: far[(i+3)%6]}, impl.Block{Jump: i - 1, Code: make([]impl.Instr, 1001)})
	}
}

// addWrong adds what is no program, expression, step, graph, image or Cpu.
func (k kit) addWrong() {
	k.add(impl.Program{}, impl.Exp{}, impl.Instr{}, impl.Block{}, impl.Graph{}, impl.Image{}, impl.Cpu{}, impl.End{}, impl.Place{})
	far := []int{math.MinInt, -1, 0, 1, 5, 16, 1000000000, math.MaxInt}
	for i := range far {
		deep := num(far[i])
		for range 20 + 10*(i%3) {
			deep = op("+", deep, impl.Exp{Kind: i, N: far[(i+1)%8], Base: far[(i+2)%8], Text: "-"})
		}
		k.add(deep, impl.Exp{Kind: far[i], N: far[(i+1)%8], Base: far[(i+2)%8], Text: "==", Kids: []impl.Exp{{}, {Kind: 9}, deep}})
		p := impl.Program{Sizes: far[:i], Params: far[(i+1)%8], Vars: far[(i+2)%8], Body: []impl.Stmt{{Kind: far[i], N: far[(i+3)%8], Base: far[(i+4)%8], Exps: []impl.Exp{deep}}, while(num(1), put(num(1)))}}
		k.add(p, prog(i, while(deep, p.Body...)), prog(3, make([]impl.Stmt, 50+i/4)...))
	}
	for op := -1; op <= 7; op++ {
		for i := range far {
			k.add(impl.Instr{Op: op, D: far[i], A: far[(i+1)%8], B: far[(i+2)%8], C: far[(i+3)%8], N: far[(i+4)%8], Text: []string{"+", "", "/"}[i%3]})
		}
	}
	wrongs := wrongGraphs()
	for _, name := range slices.Sorted(maps.Keys(wrongs)) {
		k.add(wrongs[name])
	}
	images := wrongImages()
	for _, name := range slices.Sorted(maps.Keys(images)) {
		if len(images[name].Code) < 100 {
			k.add(images[name])
		}
	}
	k.add(sample(), wholeImage(), wholeImage(), impl.Image{Sizes: []int{1}, Slots: 3, Code: manyWords(6000)}, impl.Image{Sizes: []int{1}, Slots: 3, Code: manyWords(6001)})
}

const spareRoom = 3

// roomyValue makes a copy whose texts are memory of their own, and with spare room, that has something in it, behind each list.
func roomyValue(v reflect.Value) reflect.Value {
	made := reflect.New(v.Type()).Elem()
	switch v.Kind() {
	case reflect.String:
		made.SetString(strings.Clone(v.String()))
	case reflect.Slice:
		whole := reflect.MakeSlice(v.Type(), v.Len()+spareRoom, v.Len()+spareRoom)
		for i := range v.Len() {
			whole.Index(i).Set(roomyValue(v.Index(i)))
		}
		for i := range spareRoom {
			mark(whole.Index(v.Len() + i))
		}
		made.Set(whole.Slice(0, v.Len()))
	case reflect.Struct:
		for i := range v.NumField() {
			made.Field(i).Set(roomyValue(v.Field(i)))
		}
	default:
		made.Set(v)
	}
	return made
}

// mark puts something into each field.
func mark(v reflect.Value) {
	switch v.Kind() {
	case reflect.Int:
		v.SetInt(-77)
	case reflect.String:
		v.SetString("spare")
	case reflect.Struct:
		for i := range v.NumField() {
			mark(v.Field(i))
		}
	}
}

// visit goes through a value and all that it holds, also in the spare room behind a list where that is wanted.
func visit(v reflect.Value, spare bool, see func(v reflect.Value)) {
	see(v)
	switch v.Kind() {
	case reflect.Slice:
		whole := v
		if spare {
			whole = v.Slice(0, v.Cap())
		}
		for i := range whole.Len() {
			visit(whole.Index(i), spare, see)
		}
	case reflect.Struct:
		for i := range v.NumField() {
			visit(v.Field(i), spare, see)
		}
	}
}

// allOf tells all that these values hold, and where each list has its end.
func allOf(values []reflect.Value) string {
	b := strings.Builder{}
	for _, v := range values {
		visit(v, true, func(v reflect.Value) {
			switch v.Kind() {
			case reflect.Slice:
				fmt.Fprint(&b, "[", v.Len(), " ")
			case reflect.Struct:
				b.WriteString("{")
			default:
				fmt.Fprint(&b, v.Interface(), " ")
			}
		})
	}
	return b.String()
}

// A stretch is the memory of a list, with its spare room.
type stretch struct{ from, to uintptr }

func stretches(values []reflect.Value) []stretch {
	list := []stretch{}
	for _, v := range values {
		visit(v, false, func(v reflect.Value) {
			if v.Kind() == reflect.Slice && v.Cap() > 0 {
				list = append(list, stretch{v.Pointer(), v.Pointer() + uintptr(v.Cap())*v.Type().Elem().Size()})
			}
		})
	}
	return list
}

// sharing tells whether two lists, of the answers and the arguments, share memory, or a text of an answer is a part of one of an argument.
func sharing(args []reflect.Value, answers []reflect.Value) bool {
	all := append(stretches(args), stretches(answers)...)
	slices.SortFunc(all, func(a, b stretch) int { return int(a.from) - int(b.from) })
	for i := range all[:max(0, len(all)-1)] {
		if all[i].to > all[i+1].from {
			return true
		}
	}
	given := []stretch{}
	for _, v := range args {
		visit(v, false, func(v reflect.Value) {
			if v.Kind() == reflect.String && v.Len() > 0 {
				at := uintptr(unsafe.Pointer(unsafe.StringData(v.String())))
				given = append(given, stretch{at, at + uintptr(v.Len())})
			}
		})
	}
	shared := false
	for _, v := range answers {
		visit(v, false, func(v reflect.Value) {
			if v.Kind() != reflect.String || v.Len() == 0 || len(given) > 50 {
				return
			}
			at := uintptr(unsafe.Pointer(unsafe.StringData(v.String())))
			shared = shared || slices.ContainsFunc(given, func(s stretch) bool { return s.from <= at && at < s.to })
		})
	}
	return shared
}

// called tells what a function answers, and the text of its panic where there is one.
func called(f reflect.Value, args []reflect.Value) (answers []reflect.Value, panicked string) {
	defer func() {
		if caught := recover(); caught != nil {
			panicked = fmt.Sprint(caught)
		}
	}()
	return f.Call(args), ""
}

// wantAnswer tells that a function answers, leaves its arguments as they were, answers new memory, and answers alike a second time.
func wantAnswer(t *testing.T, name string, f reflect.Value, given []reflect.Value) {
	t.Helper()
	args := []reflect.Value{}
	for _, v := range given {
		args = append(args, roomyValue(v))
	}
	ahead := allOf(args)
	shown := func() string { return fmt.Sprintf("%s(%.600s)", name, ahead) }
	first, panicked := called(f, args)
	if panicked != "" {
		t.Fatalf("%s panics: %s", shown(), panicked)
	}
	if allOf(args) != ahead {
		t.Fatalf("%s writes into its arguments", shown())
	}
	if sharing(args, first) {
		t.Fatalf("%s answers memory that is shared", shown())
	}
	want := plainAll(first)
	second, _ := called(f, args)
	if got := plainAll(second); got != want || plainAll(first) != want {
		t.Fatalf("%s answers %.300s, then %.300s", shown(), want, got)
	}
	// What was answered is the caller's own: whatever is done with it tells nothing of the next answer.
	spoilAll(first)
	third, _ := called(f, args)
	if got := plainAll(third); got != want || plainAll(second) != want || allOf(args) != ahead {
		t.Fatalf("%s answers %.300s, once the first answer was written into", shown(), got)
	}
}

func plainAll(values []reflect.Value) string {
	s := ""
	for _, v := range values {
		s += plain(v.Interface()) + ", "
	}
	return s
}

// spoilAll writes into all lists, and into their spare room.
func spoilAll(values []reflect.Value) {
	for _, v := range values {
		visit(v, true, func(v reflect.Value) {
			if v.Kind() == reflect.Slice {
				for i := range v.Cap() {
					mark(v.Slice(0, v.Cap()).Index(i))
				}
			}
		})
	}
}

func TestEveryFunctionAnswersAndWritesIntoNothing(t *testing.T) {
	t.Parallel()
	kits := madeKits()
	all := kits[len(kits)-1]
	for name, function := range everyFunction() {
		f := reflect.ValueOf(function)
		kinds := []reflect.Type{}
		for i := range f.Type().NumIn() {
			kinds = append(kinds, f.Type().In(i))
			if len(all[kinds[i]]) < 20 {
				t.Fatalf("only %d values of %s", len(all[kinds[i]]), kinds[i])
			}
		}
		t.Run(name, func(t *testing.T) {
			t.Parallel()
			if len(kinds) == 1 {
				for _, x := range all[kinds[0]] {
					wantAnswer(t, name, f, []reflect.Value{reflect.ValueOf(x)})
				}
				return
			}
			r := rand.New(rand.NewSource(int64(len(name))))
			for n := range 300 {
				args := []reflect.Value{}
				for _, kind := range kinds {
					args = append(args, kits[n%len(kits)].pick(r, kind, all))
				}
				wantAnswer(t, name, f, args)
			}
		})
	}
}

// Lists that hold themselves can not be copied: it is told of them that each function answers, and leaves what they begin with.
func TestEveryFunctionAnswersOfListsThatHoldThemselves(t *testing.T) {
	kids := []impl.Exp{op("+"), op("+")}
	kids[0].Kids, kids[1].Kids = kids, kids
	list := []impl.Stmt{while(kids[0]), iff(kids[1], nil, nil)}
	list[0].A, list[1].A, list[1].B = list, list, list
	p := prog(1, list...)
	own := map[reflect.Type]reflect.Value{reflect.TypeOf(p): reflect.ValueOf(p), reflect.TypeOf(kids[0]): reflect.ValueOf(kids[0])}
	all := madeKits()[0]
	all.addNumbers()
	calls := 0
	for name, function := range everyFunction() {
		f := reflect.ValueOf(function)
		args, has := []reflect.Value{}, false
		for i := range f.Type().NumIn() {
			kind := f.Type().In(i)
			v, ok := own[kind]
			if !ok {
				v = reflect.ValueOf(all[kind][0])
			}
			args, has = append(args, v), has || ok
		}
		if !has {
			continue
		}
		calls++
		if _, panicked := called(f, args); panicked != "" {
			t.Errorf("%s panics: %s", name, panicked)
		}
		if len(kids[0].Kids) != 2 || &kids[1].Kids[0] != &kids[0] || &list[1].B[1] != &list[1] || list[0].Kind != impl.StWhile || kids[1].Text != "+" || len(p.Sizes) != 2 {
			t.Fatalf("%s writes into its arguments", name)
		}
	}
	if calls < 14 {
		t.Errorf("only %d functions take a program or an expression", calls)
	}
}
