package tests

import (
	"math"
	"math/rand"
	"slices"
	"strconv"
	"strings"
	"testing"

	"loop.example/g00385/impl"
)

func parsed(t *testing.T, s string) impl.Program {
	t.Helper()
	p, line := impl.Parse(s)
	if line != 0 {
		t.Fatalf("Parse(%q) refuses line %d", s, line)
	}
	if !impl.ProgramOk(p) {
		t.Fatalf("Parse(%q) is not ProgramOk: %s", s, plain(p))
	}
	return p
}

func wantProgram(t *testing.T, s string, want impl.Program) {
	t.Helper()
	if got := parsed(t, s); plain(got) != plain(want) {
		t.Errorf("Parse(%q) = %s; want %s", s, plain(got), plain(want))
	}
}

func wantLine(t *testing.T, s string, want int) {
	t.Helper()
	if got, line := impl.Parse(s); line != want || plain(got) != plain(impl.Program{}) {
		t.Errorf("Parse(%q) = %s, %d; want the zero value, %d", s, plain(got), line, want)
	}
}

// wantMisfit puts each word on a line of its own: the one behind ^ has to be told.
func wantMisfit(t *testing.T, s string) {
	t.Helper()
	list := strings.Fields(s)
	for i, word := range list {
		if strings.HasPrefix(word, "^") {
			list[i] = word[1:]
			wantLine(t, strings.Join(list, "\n"), i+1)
			return
		}
	}
	t.Errorf("no word is marked in %q", s)
}

func body(s string) string { return "mem a[4]; mem b[2]; fn (x, y) { " + s + " }" }

func TestParseOfEachForm(t *testing.T) {
	two := func(vars int, list ...impl.Stmt) impl.Program {
		p := prog(vars, list...)
		p.Params = 2
		return p
	}
	wantProgram(t, "mem a[1]; fn () { }", impl.Program{Sizes: []int{1}})
	wantProgram(t, "mem a[1];\nmem b[16]; mem c [ 007 ] ;fn(){}", impl.Program{Sizes: []int{1, 16, 7}})
	wantProgram(t, "mem a[1]; fn (x) { }", impl.Program{Sizes: []int{1}, Params: 1, Vars: 1})
	wantProgram(t, body("let z = 5;"), two(3, set(2, num(5))))
	wantProgram(t, body("ptr p in b = x;"), two(3, set(2, vari(0))))
	wantProgram(t, body("y = x;"), two(2, set(1, vari(0))))
	wantProgram(t, body("let z = 1; z = y; ptr p in a = z; p = p + 1;"),
		two(4, set(2, num(1)), set(2, vari(1)), set(3, vari(2)), set(3, op("+", vari(3), num(1)))))
	wantProgram(t, body("a[0] = 1; b[x] = a[y];"), two(2, store(0, -1, num(0), num(1)), store(1, -1, vari(0), load(0, -1, vari(1)))))
	wantProgram(t, body("ptr p in b = 1; p[x] = p[p[0]]; a[p] = 2;"),
		two(3, set(2, num(1)), store(1, 2, vari(0), load(1, 2, load(1, 2, num(0)))), store(0, -1, vari(2), num(2))))
	wantProgram(t, body("if x { } else { }"), two(2, iff(vari(0), nil, nil)))
	wantProgram(t, body("if get { put 1; put 2; } else { return 3; } put 4;"),
		two(2, iff(get(), []impl.Stmt{put(num(1)), put(num(2))}, []impl.Stmt{ret(num(3))}), put(num(4))))
	wantProgram(t, body("while x < 3 { x = x + 1; while 0 { } }"),
		two(2, while(op("<", vari(0), num(3)), set(0, op("+", vari(0), num(1))), while(num(0)))))
	wantProgram(t, body("put get; return get;"), two(2, put(get()), ret(get())))
}

func TestParseRanksOfSigns(t *testing.T) {
	p := parsed(t, body("put 0;"))
	cases := []struct{ text, want string }{
		{"1", "1"}, {"x", "v0"}, {"get", "get"}, {"(1)", "1"}, {"(((x)))", "v0"},
		{"a[1]", "r0[1]"}, {"b[a[x]]", "r1[r0[v0]]"}, {"a[x < 1]", "r0[(v0 < 1)]"},
		{"1 + 2 + 3", "((1 + 2) + 3)"}, {"1 - 2 - 3", "((1 - 2) - 3)"}, {"1 & 2 & 3", "((1 & 2) & 3)"},
		{"1 - 2 + 3 & 4", "(((1 - 2) + 3) & 4)"}, {"1 & 2 - 3 + 4", "(((1 & 2) - 3) + 4)"},
		{"1 * 2 * 3", "((1 * 2) * 3)"}, {"1 + 2 * 3", "(1 + (2 * 3))"}, {"1 * 2 + 3", "((1 * 2) + 3)"},
		{"1 & 2 * 3 * 4 - 5", "((1 & ((2 * 3) * 4)) - 5)"}, {"1 - (2 - 3)", "(1 - (2 - 3))"},
		{"1 * (2 * 3)", "(1 * (2 * 3))"}, {"(1 + 2) * 3", "((1 + 2) * 3)"},
		{"1 == 2", "(1 == 2)"}, {"1 < 2", "(1 < 2)"}, {"1 + 2 < 3 * 4", "((1 + 2) < (3 * 4))"},
		{"x & 1 == y - 1", "((v0 & 1) == (v1 - 1))"}, {"(1 < 2) < 3", "((1 < 2) < 3)"}, {"1 == (2 == 3)", "(1 == (2 == 3))"},
		{"(1 < 2) + 3", "((1 < 2) + 3)"}, {"a[1]*a[2]", "(r0[1] * r0[2])"}, {"get-get", "(get - get)"},
	}
	for _, c := range cases {
		q := parsed(t, body("put "+c.text+";"))
		if got := impl.ShowExp(p, q.Body[0].Exps[0]); got != c.want {
			t.Errorf("%q shows %q; want %q", c.text, got, c.want)
		}
	}
	wantMisfit(t, "mem a [ 1 ] ; fn ( ) { put 1 < 2 ^< 3 ; }")
	wantMisfit(t, "mem a [ 1 ] ; fn ( ) { put 1 == 2 ^== 3 ; }")
	wantMisfit(t, "mem a [ 1 ] ; fn ( ) { put 1 == 2 + 3 ^< 3 ; }")
	wantMisfit(t, "mem a [ 1 ] ; fn ( ) { put ^- 1 ; }")
	wantMisfit(t, "mem a [ 1 ] ; fn ( ) { put 1 + ^+ 1 ; }")
	wantMisfit(t, "mem a [ 1 ] ; fn ( ) { put 1 ^= 1 ; }")
	wantMisfit(t, "mem a [ 1 ] ; fn ( ) { put 1 ^1 ; }")
	wantMisfit(t, "mem a [ 1 ] ; fn ( ) { put ( ^) ; }")
	wantMisfit(t, "mem a [ 1 ] ; fn ( ) { put ( 1 ^; }")
	wantMisfit(t, "mem a [ 1 ] ; fn ( ) { put 1 ^) ; }")
	wantMisfit(t, "mem a [ 1 ] ; fn ( ) { put a [ ^] ; }")
	wantMisfit(t, "mem a [ 1 ] ; fn ( ) { put a [ 0 ^; }")
	wantMisfit(t, "mem a [ 1 ] ; fn ( ) { put a [ 0 ] ^[ 0 ] ; }")
	wantMisfit(t, "mem a [ 1 ] ; fn ( ) { put ^; }")
	wantMisfit(t, "mem a [ 1 ] ; fn ( ) { put get ^get ; }")
}

func TestParseTellsFirstWordThatDoesNotFit(t *testing.T) {
	for _, s := range []string{
		"^x", "^1", "^;", "^{", "^let x", "mem ^[ 1 ] ; fn ( ) { }", "mem a ^1 ] ; fn ( ) { }", "mem a [ ^b ] ; fn ( ) { }",
		"mem a [ 1 ^; fn ( ) { }", "mem a [ 1 ] ^mem b [ 1 ] ; fn ( ) { }", "mem a [ 1 ] ; ^put 1 ;", "mem a [ 1 ] ; ^a [ 0 ] = 1 ;",
		"mem ^fn [ 1 ] ;", "mem a [ 1 ^+ 1 ] ;",
		"mem a [ 1 ] ; fn ^x ( ) { }", "mem a [ 1 ] ; fn ( ^, ) { }", "mem a [ 1 ] ; fn ( x ^y ) { }", "mem a [ 1 ] ; fn ( x , ^) { }",
		"mem a [ 1 ] ; fn ( ^1 ) { }", "mem a [ 1 ] ; fn ( ^get ) { }", "mem a [ 1 ] ; fn ( ) ^; { }", "mem a [ 1 ] ; fn ( ) ^( ) { }",
		"mem a [ 1 ] ; fn ( ) { ^; }", "mem a [ 1 ] ; fn ( ) { ^{ } }", "mem a [ 1 ] ; fn ( ) { ^1 = 1 ; }", "mem a [ 1 ] ; fn ( ) { ^mem b [ 1 ] ; }",
		"mem a [ 1 ] ; fn ( ) { ^else { } }", "mem a [ 1 ] ; fn ( ) { ^get ; }", "mem a [ 1 ] ; fn ( ) { put 1 ^}",
		"mem a [ 1 ] ; fn ( ) { let ^1 = 1 ; }", "mem a [ 1 ] ; fn ( ) { let x ^; }", "mem a [ 1 ] ; fn ( ) { let x ^== 1 ; }",
		"mem a [ 1 ] ; fn ( ) { let x ^[ 0 ] = 1 ; }", "mem a [ 1 ] ; fn ( ) { let x ^in a = 1 ; }", "mem a [ 1 ] ; fn ( ) { ptr x ^= 1 ; }",
		"mem a [ 1 ] ; fn ( ) { ptr x in ^1 = 1 ; }", "mem a [ 1 ] ; fn ( ) { ptr x in a ^[ 0 ] = 1 ; }", "mem a [ 1 ] ; fn ( ) { ptr x in a = ^; }",
		"mem a [ 1 ] ; fn ( x ) { x ^; }", "mem a [ 1 ] ; fn ( x ) { x ^+ 1 ; }", "mem a [ 1 ] ; fn ( x ) { x = 1 ^, }", "mem a [ 1 ] ; fn ( ) { a [ 0 ] ^; }",
		"mem a [ 1 ] ; fn ( ) { a [ 0 ^= 1 ; }", "mem a [ 1 ] ; fn ( ) { return ^; }", "mem a [ 1 ] ; fn ( ) { while ^{ } }",
		"mem a [ 1 ] ; fn ( ) { while 1 ^put 1 ; }", "mem a [ 1 ] ; fn ( ) { while 1 { } ^else { } }", "mem a [ 1 ] ; fn ( ) { if ^{ } else { } }",
		"mem a [ 1 ] ; fn ( ) { if 1 { } ^}", "mem a [ 1 ] ; fn ( ) { if 1 { } ^put 1 ; }", "mem a [ 1 ] ; fn ( ) { if 1 { } else ^if 1 { } else { } }",
		"mem a [ 1 ] ; fn ( ) { } ^x", "mem a [ 1 ] ; fn ( ) { } ^}", "mem a [ 1 ] ; fn ( ) { } ^; ;", "mem a [ 1 ] ; fn ( ) { } ^fn ( ) { }",
		"mem a [ 1 ] ; fn ( ) { put 1 ; ^) ; }", "fn ( ) { put ^y ; }", "fn ( ) { } ^mem",
	} {
		wantMisfit(t, s)
	}
}

func TestParseTellsLastWordWhereMoreAreLacking(t *testing.T) {
	whole := strings.Fields("mem a [ 1 ] ; fn ( x , y ) { let z = x + 1 * ( get ) ; ptr p in a = 0 ; p [ 0 ] = a [ 0 ] ; if 1 { } else { } while 1 < 2 { } return z ; }")
	parsed(t, strings.Join(whole, "\n"))
	for n := 1; n < len(whole); n++ {
		wantLine(t, strings.Join(whole[:n], "\n"), n)
		wantLine(t, strings.Join(whole[:n], "\n")+"\n\n \n", n)
	}
	wantLine(t, "", 1)
	wantLine(t, "\n\n  \n", 1)
}

func TestParseTellsLexLine(t *testing.T) {
	wantLine(t, "mem a[1];\nfn () {\n!", 3)
	wantLine(t, "put\n1\n!", 3)
	wantLine(t, "mem a[1];\nfn () {\nput 1234567890; }", 3)
	wantLine(t, "mem a[1];\nfn (abcdefghi) { }", 2)
	long := "mem a[1];\nfn () { }"
	parsed(t, long+strings.Repeat(" ", impl.MaxText-len(long)))
	wantLine(t, long+strings.Repeat(" ", impl.MaxText-len(long)+1), 1)
}

func TestParseOfNamesThatAreThereAlready(t *testing.T) {
	for _, s := range []string{
		"mem a [ 1 ] ; mem ^a [ 1 ] ; fn ( ) { }",
		"mem a [ 1 ] ; mem b [ 1 ] ; mem ^a [ 0 ] ; fn ( ) { }",
		"mem a [ 1 ] ; fn ( ^a ) { }",
		"mem a [ 1 ] ; fn ( x , ^x ) { }",
		"mem a [ 1 ] ; fn ( ) { let ^a = 1 ; }",
		"mem a [ 1 ] ; fn ( x ) { let ^x = 1 ; }",
		"mem a [ 1 ] ; fn ( ) { let x = 1 ; let ^x = 1 ; }",
		"mem a [ 1 ] ; fn ( ) { ptr p in a = 1 ; let ^p = 1 ; }",
		"mem a [ 1 ] ; fn ( ) { ptr ^a in a = 1 ; }",
		"mem a [ 1 ] ; fn ( x ) { ptr ^x in a = 1 ; }",
		"mem a [ 1 ] ; fn ( ) { let x = 1 ; ptr ^x in a = 1 ; }",
		"mem a [ 1 ] ; fn ( ) { ptr p in a = 1 ; ptr ^p in a = 1 ; }",
		"mem a [ 1 ] ; fn ( ) { if 1 { let x = 1 ; } else { let ^x = 1 ; } }",
		"mem a [ 1 ] ; fn ( ) { while 1 { let x = 1 ; } let ^x = 1 ; }",
		"mem a [ 1 ] ; fn ( ) { while 1 { ptr p in a = 1 ; } let ^p = 1 ; }",
	} {
		wantMisfit(t, s)
	}
}

func TestParseOfNamesThatCanNotBeNamedHere(t *testing.T) {
	for _, s := range []string{
		"mem a [ 1 ] ; fn ( x ) { ^y = 1 ; }",
		"mem a [ 1 ] ; fn ( x ) { put ^y ; }",
		"mem a [ 1 ] ; fn ( x ) { put x + ^y ; }",
		"mem a [ 1 ] ; fn ( x ) { put ^y [ 0 ] ; }",
		"mem a [ 1 ] ; fn ( x ) { ^y [ 0 ] = 1 ; }",
		"mem a [ 1 ] ; fn ( ) { let q = ^q ; }",
		"mem a [ 1 ] ; fn ( ) { let q = 1 + a [ ^q ] ; }",
		"mem a [ 1 ] ; fn ( ) { ptr p in a = ^p ; }",
		"mem a [ 1 ] ; fn ( ) { ptr p in a = ^p [ 0 ] ; }",
		"mem a [ 1 ] ; fn ( ) { ^q = 1 ; let q = 1 ; }",
		"mem a [ 1 ] ; fn ( ) { while ^q { let q = 1 ; } }",
		"mem a [ 1 ] ; fn ( x ) { ^x [ 0 ] = 1 ; }",
		"mem a [ 1 ] ; fn ( x ) { put ^x [ 0 ] ; }",
		"mem a [ 1 ] ; fn ( ) { let v = 1 ; ^v [ 0 ] = 1 ; }",
		"mem a [ 1 ] ; fn ( ) { let v = 1 ; put 1 + ^v [ 0 ] ; }",
		"mem a [ 1 ] ; fn ( ) { ^a = 1 ; }",
		"mem a [ 1 ] ; fn ( ) { put ^a ; }",
		"mem a [ 1 ] ; fn ( ) { put 1 + ^a * 2 ; }",
		"mem a [ 1 ] ; fn ( x ) { ptr p in ^x = 0 ; }",
		"mem a [ 1 ] ; fn ( ) { let v = 1 ; ptr p in ^v = 0 ; }",
		"mem a [ 1 ] ; fn ( ) { ptr p in a = 0 ; ptr q in ^p = 0 ; }",
		"mem a [ 1 ] ; fn ( ) { ptr p in ^p = 0 ; }",
		"mem a [ 1 ] ; fn ( ) { ptr p in ^none = 0 ; }",
	} {
		wantMisfit(t, s)
	}
	wantProgram(t, "mem a[4]; mem b[2]; fn () { if 1 { let x = 1; } else { x = 2; ptr p in b = x; } while p { let y = 3; } p[y] = x; }",
		prog(3, iff(num(1), []impl.Stmt{set(0, num(1))}, []impl.Stmt{set(0, num(2)), set(1, vari(0))}),
			while(vari(1), set(2, num(3))), store(1, 1, vari(2), vari(0))))
	wantProgram(t, "mem a[4]; mem b[2]; fn () { let q = 1; let r = q; q = q; }", prog(2, set(0, num(1)), set(1, vari(0)), set(0, vari(0))))
}

func nested(n int) string {
	return "mem a[1]; fn () { " + strings.Repeat("while 1 { ", n) + strings.Repeat("} ", n) + "}"
}

func TestParseEdges(t *testing.T) {
	regions := func(n int) string {
		s := ""
		for i := range n {
			s += "mem r" + strconv.Itoa(i) + "[1];\n"
		}
		return s + "fn () { }"
	}
	names := func(n int) string {
		list := []string{}
		for i := range n {
			list = append(list, "x"+strconv.Itoa(i))
		}
		return strings.Join(list, ", ")
	}
	lets := func(params int, n int) string {
		s := "mem a[1];\nfn (" + names(params) + ") {\n"
		for i := range n {
			s += "let y" + strconv.Itoa(i) + " = 1;\n"
		}
		return s + "}"
	}
	if p := parsed(t, regions(impl.MaxRegions)); len(p.Sizes) != impl.MaxRegions {
		t.Error("regions", p.Sizes)
	}
	wantLine(t, regions(impl.MaxRegions+1), 1)
	wantLine(t, "\nfn () { }", 1)
	wantProgram(t, "mem a[1]; mem b[16]; fn () { }", impl.Program{Sizes: []int{1, impl.MaxSize}})
	wantLine(t, "\n\nmem a[0]; fn () { }", 1)
	wantLine(t, "\n\nmem a[17]; fn () { }", 1)
	wantLine(t, "\nmem a[1]; mem b[999999999]; fn () { }", 1)
	wantProgram(t, "mem a[1]; fn ("+names(6)+") { }", impl.Program{Sizes: []int{1}, Params: 6, Vars: 6})
	wantLine(t, "\nmem a[1]; fn ("+names(7)+") { }", 1)
	if p := parsed(t, lets(0, impl.MaxVars)); p.Vars != impl.MaxVars {
		t.Error("variables", p.Vars)
	}
	if p := parsed(t, lets(6, impl.MaxVars-6)); p.Vars != impl.MaxVars || p.Params != 6 {
		t.Error("parameters and variables", p.Vars)
	}
	wantLine(t, lets(0, impl.MaxVars+1), 1)
	wantLine(t, lets(6, impl.MaxVars-5), 1)
	wantProgram(t, "mem a[1]; fn () { put 999999999; put 0; }", impl.Program{Sizes: []int{1}, Body: []impl.Stmt{put(num(999999999)), put(num(0))}})
	// What is not ProgramOk does not hide a word that does not fit.
	wantLine(t, regions(impl.MaxRegions+1)+"\n\nx", impl.MaxRegions+4)
	wantLine(t, "mem a[17];\nfn () {\nput y; }", 3)
}

func TestParseEdgesOfListsAndDepth(t *testing.T) {
	puts := func(n int) string { return strings.Repeat("put 1; ", n) }
	if p := parsed(t, "mem a[1]; fn () { "+puts(50)+"}"); len(p.Body) != 50 {
		t.Error("statements", len(p.Body))
	}
	wantLine(t, "\nmem a[1]; fn () { "+puts(51)+"}", 1)
	parsed(t, "mem a[1]; fn () { if 1 { "+puts(50)+"} else { "+puts(50)+"} while 1 { "+puts(50)+"} }")
	wantLine(t, "\nmem a[1]; fn () { if 1 { "+puts(51)+"} else { } }", 1)
	wantLine(t, "\nmem a[1]; fn () { if 1 { } else { "+puts(51)+"} }", 1)
	wantLine(t, "\nmem a[1]; fn () { while 1 { "+puts(51)+"} }", 1)
	// The expression of a statement is one deeper than it: statements go down to MaxDeep - 1.
	parsed(t, nested(impl.MaxDeep))
	wantLine(t, "\n"+nested(impl.MaxDeep+1), 1)
	sum := func(n int) string { return "mem a[1]; fn () { put 1" + strings.Repeat(" + 1", n) + "; }" }
	parsed(t, sum(impl.MaxDeep-1))
	wantLine(t, "\n"+sum(impl.MaxDeep), 1)
	loads := func(n int) string {
		return "mem a[1]; fn () { put " + strings.Repeat("a[", n) + "0" + strings.Repeat("]", n) + "; }"
	}
	parsed(t, loads(impl.MaxDeep-1))
	wantLine(t, "\n"+loads(impl.MaxDeep), 1)
	parsed(t, "mem a[1]; fn () { put "+strings.Repeat("(", 1000)+"1"+strings.Repeat(")", 1000)+"; }")
	wantLine(t, "\nmem a[1]; fn () { put "+strings.Repeat("(", 2900), 2)
	wantLine(t, "\nmem a[1]; fn () { "+strings.Repeat("while 1{", 350), 2)
}

func TestShowProgramOfEachForm(t *testing.T) {
	p := impl.Program{Sizes: []int{1, 16, 3}, Params: 1, Vars: 2, Body: []impl.Stmt{
		set(1, num(12)), store(2, -1, num(0), vari(0)), store(1, 0, get(), load(0, 1, num(0))),
		iff(vari(1), []impl.Stmt{while(get(), put(load(2, -1, vari(1))))}, []impl.Stmt{iff(num(0), nil, nil)}),
		while(op("<", num(1), num(2))), ret(op("&", op("*", num(1), num(2)), op("==", num(3), num(4)))),
	}}
	want := "r0:1 r1:16 r2:3\nparams 1 2\nv1 = 12\nr2[0] = v0\nr1+v0[get] = r0+v1[0]\nif v1\nwhile get\nput r2[v1]\nend\nelse\n" +
		"if 0\nelse\nend\nend\nwhile (1 < 2)\nend\nreturn ((1 * 2) & (3 == 4))\n"
	if got := impl.ShowProgram(p); got != want {
		t.Errorf("shows %q; want %q", got, want)
	}
	if got := impl.ShowProgram(impl.Program{Sizes: []int{5}}); got != "r0:5\nparams 0 0\n" {
		t.Errorf("an empty program shows %q", got)
	}
}

// whole is a right program with each form in it; each call makes it anew.
func whole() impl.Program {
	return impl.Program{Sizes: []int{4, 2}, Params: 2, Vars: 3, Body: []impl.Stmt{
		set(2, op("+", vari(0), num(7))),
		store(1, 2, num(1), load(0, -1, get())),
		iff(vari(1), []impl.Stmt{put(num(1))}, []impl.Stmt{put(num(2))}),
		while(num(0), set(0, load(1, 1, num(0)))),
		ret(op("==", num(1), num(2))),
	}}
}

func TestProgramOkOfOneChange(t *testing.T) {
	if !impl.ProgramOk(whole()) {
		t.Fatal("the program to be changed is not right")
	}
	good := map[string]func(p *impl.Program){
		"one region":     func(p *impl.Program) { *p = impl.Program{Sizes: []int{1}} },
		"four regions":   func(p *impl.Program) { p.Sizes = []int{1, 16, 1, 16} },
		"no parameter":   func(p *impl.Program) { p.Params = 0 },
		"all parameters": func(p *impl.Program) { p.Params = 3 },
		"six":            func(p *impl.Program) { p.Params, p.Vars = 6, 6 },
		"most variables": func(p *impl.Program) { p.Vars = 20 },
		"no list":        func(p *impl.Program) { p.Body = nil },
		"least number":   func(p *impl.Program) { p.Body[0].Exps[0].Kids[1].N = 0 },
		"greatest":       func(p *impl.Program) { p.Body[0].Exps[0].Kids[1].N = 999999999 },
		"least Base":     func(p *impl.Program) { p.Body[1].Base = -1 },
		"greatest Base":  func(p *impl.Program) { p.Body[1].Exps[1].Base = 2 },
	}
	for name, change := range good {
		p := whole()
		if change(&p); !impl.ProgramOk(p) || impl.ShowProgram(p) == "" {
			t.Errorf("%s: not right, shown as %q", name, impl.ShowProgram(p))
		}
	}
	bad := map[string]func(p *impl.Program){
		"no region":           func(p *impl.Program) { p.Sizes = nil },
		"five regions":        func(p *impl.Program) { p.Sizes = []int{1, 1, 1, 1, 1} },
		"size 0":              func(p *impl.Program) { p.Sizes[1] = 0 },
		"size below 0":        func(p *impl.Program) { p.Sizes[0] = -1 },
		"size 17":             func(p *impl.Program) { p.Sizes[1] = 17 },
		"parameters below 0":  func(p *impl.Program) { p.Params = -1 },
		"seven parameters":    func(p *impl.Program) { p.Params, p.Vars = 7, 20 },
		"above the variables": func(p *impl.Program) { p.Params = 4 },
		"too few variables":   func(p *impl.Program) { p.Params, p.Vars = 2, 2 },
		"variables below 0":   func(p *impl.Program) { p.Vars = -1 },
		"too many variables":  func(p *impl.Program) { p.Vars = 21 },
		"region gone":         func(p *impl.Program) { p.Sizes = p.Sizes[:1] },
	}
	for name, change := range bad {
		p := whole()
		change(&p)
		wantWrong(t, name, p)
	}
}

func wantWrong(t *testing.T, name string, p impl.Program) {
	t.Helper()
	if impl.ProgramOk(p) || impl.ShowProgram(p) != "" {
		t.Errorf("%s: right, shown as %q", name, impl.ShowProgram(p))
	}
}

func TestProgramOkOfWrongStatements(t *testing.T) {
	for i := range whole().Body {
		bad := map[string]func(s *impl.Stmt){
			"no kind":           func(s *impl.Stmt) { s.Kind = 6 },
			"kind below 0":      func(s *impl.Stmt) { s.Kind = -1 },
			"greatest kind":     func(s *impl.Stmt) { s.Kind = math.MaxInt },
			"N below 0":         func(s *impl.Stmt) { s.N = -1 },
			"N too great":       func(s *impl.Stmt) { s.N = 3 },
			"Base below -1":     func(s *impl.Stmt) { s.Base = -2 },
			"Base too great":    func(s *impl.Stmt) { s.Base = 3 },
			"no expression":     func(s *impl.Stmt) { s.Exps = nil },
			"three expressions": func(s *impl.Stmt) { s.Exps = []impl.Exp{num(1), num(1), num(1)} },
			"wrong expression":  func(s *impl.Stmt) { s.Exps[0] = num(-1) },
			"other count":       func(s *impl.Stmt) { s.Exps = slices.Repeat([]impl.Exp{num(1)}, 3-len(s.Exps)) },
		}
		if kind := whole().Body[i].Kind; kind != impl.StIf {
			bad["a second list"] = func(s *impl.Stmt) { s.B = []impl.Stmt{put(num(1))} }
		} else {
			bad["wrong in B"] = func(s *impl.Stmt) { s.B = []impl.Stmt{put(vari(9))} }
			bad["wrong in A"] = func(s *impl.Stmt) { s.A = []impl.Stmt{put(num(1)), {Kind: 9}} }
		}
		if kind := whole().Body[i].Kind; kind != impl.StIf && kind != impl.StWhile {
			bad["a list"] = func(s *impl.Stmt) { s.A = []impl.Stmt{put(num(1))} }
		}
		if kind := whole().Body[i].Kind; kind != impl.StSet && kind != impl.StStore {
			bad["an N"] = func(s *impl.Stmt) { s.N = 1 }
		}
		if whole().Body[i].Kind != impl.StStore {
			bad["a Base"] = func(s *impl.Stmt) { s.Base = 1 }
			bad["a Base of none"] = func(s *impl.Stmt) { s.Base = -1 }
		} else {
			bad["N no region"] = func(s *impl.Stmt) { s.N = 2 }
			bad["wrong second"] = func(s *impl.Stmt) { s.Exps[1] = vari(3) }
		}
		for name, change := range bad {
			p := whole()
			change(&p.Body[i])
			wantWrong(t, name+" in statement "+strconv.Itoa(i), p)
			inner := whole()
			inner.Body = []impl.Stmt{while(num(1), iff(num(1), nil, p.Body[i:i+1]))}
			wantWrong(t, name+" deeper in statement "+strconv.Itoa(i), inner)
		}
	}
}

func TestExpOkOfRightAndWrongExpressions(t *testing.T) {
	p := impl.Program{Sizes: []int{1, 1}, Vars: 3}
	texts := map[string]impl.Exp{
		"0": num(0), "999999999": num(999999999), "v0": vari(0), "v2": vari(2), "get": get(),
		"r0[0]": load(0, -1, num(0)), "r1+v0[v1]": load(1, 0, vari(1)), "r1+v2[r0[1]]": load(1, 2, load(0, -1, num(1))),
		"(1 + 2)": op("+", num(1), num(2)), "(1 - 2)": op("-", num(1), num(2)), "(1 * 2)": op("*", num(1), num(2)),
		"(1 & 2)": op("&", num(1), num(2)), "(1 < 2)": op("<", num(1), num(2)), "((1 == 2) == get)": op("==", op("==", num(1), num(2)), get()),
	}
	for want, e := range texts {
		if got := impl.ShowExp(p, e); got != want || !impl.ExpOk(p, e) {
			t.Errorf("%s shows %q; want %q", plain(e), got, want)
		}
	}
	wrong := []impl.Exp{
		{Kind: 5}, {Kind: -1}, {Kind: math.MinInt}, num(-1), num(1000000000), num(math.MaxInt), num(math.MinInt),
		{Base: 1}, {Base: -1}, {Text: "+"}, {Kids: []impl.Exp{num(1)}},
		vari(-1), vari(3), vari(math.MaxInt), {Kind: impl.ExVar, Base: 1}, {Kind: impl.ExVar, Text: "v"}, {Kind: impl.ExVar, Kids: []impl.Exp{num(1)}},
		load(-1, -1, num(0)), load(2, -1, num(0)), load(0, -2, num(0)), load(0, 3, num(0)), load(0, -1, num(-1)), load(0, math.MinInt, num(0)),
		{Kind: impl.ExLoad, Base: -1}, {Kind: impl.ExLoad, Kids: []impl.Exp{num(1), num(1)}}, {Kind: impl.ExLoad, Text: "a", Kids: []impl.Exp{num(1)}},
		op("+"), op("+", num(1)), op("+", num(1), num(1), num(1)), op("", num(1), num(1)), op("=", num(1), num(1)), op("++", num(1), num(1)),
		op("/", num(1), num(1)), op(" +", num(1), num(1)), op("+", vari(3), num(1)), op("+", num(1), vari(3)), op("let", num(1), num(1)),
		{Kind: impl.ExOp, N: 1, Text: "+", Kids: []impl.Exp{num(1), num(1)}}, {Kind: impl.ExOp, Base: -1, Text: "+", Kids: []impl.Exp{num(1), num(1)}},
		{Kind: impl.ExGet, N: 1}, {Kind: impl.ExGet, Base: -1}, {Kind: impl.ExGet, Text: "get"}, {Kind: impl.ExGet, Kids: []impl.Exp{num(1)}},
	}
	for _, e := range wrong {
		if got := impl.ShowExp(p, e); got != "" || impl.ExpOk(p, e) {
			t.Errorf("%s is right, shown as %q", plain(e), got)
		}
		q := whole()
		q.Body[4].Exps[0] = e
		wantWrong(t, plain(e), q)
	}
	if impl.ExpOk(impl.Program{}, vari(0)) || impl.ExpOk(impl.Program{}, load(0, -1, num(0))) || !impl.ExpOk(impl.Program{}, num(1)) {
		t.Error("expressions of the zero value")
	}
	if impl.ExpOk(impl.Program{Vars: -5}, vari(-1)) {
		t.Error("a variable below 0")
	}
	// Sizes and Vars alone decide, not what else is wrong with the program.
	if q := (impl.Program{Sizes: []int{1}, Params: 9, Vars: 1, Body: []impl.Stmt{{Kind: 77}}}); impl.ShowExp(q, load(0, 0, vari(0))) != "r0+v0[v0]" {
		t.Error("a wrong body")
	}
}

func deep(n int) impl.Exp {
	e := vari(1)
	for i := range n {
		if i%2 == 0 {
			e = load(0, 0, e)
		} else {
			e = op("+", num(1), e)
		}
	}
	return e
}

func deepStmt(n int) impl.Stmt {
	s := set(2, num(1))
	for i := range n {
		if i%2 == 0 {
			s = iff(num(1), nil, []impl.Stmt{s})
		} else {
			s = while(num(1), s)
		}
	}
	return s
}

func TestEdgesOfDepth(t *testing.T) {
	p := whole()
	if !impl.ExpOk(p, deep(impl.MaxDeep)) || impl.ExpOk(p, deep(impl.MaxDeep+1)) {
		t.Error("expressions")
	}
	if impl.ShowExp(p, deep(impl.MaxDeep)) == "" || impl.ShowExp(p, deep(impl.MaxDeep+1)) != "" {
		t.Error("texts of expressions")
	}
	right := func(list ...impl.Stmt) bool { return impl.ProgramOk(prog(3, list...)) }
	if !right(put(deep(impl.MaxDeep-1))) || right(put(deep(impl.MaxDeep))) {
		t.Error("expressions of a statement")
	}
	if !right(deepStmt(impl.MaxDeep-1)) || right(deepStmt(impl.MaxDeep)) {
		t.Error("statements")
	}
	if !right(while(num(1), put(deep(impl.MaxDeep-2)))) || right(while(num(1), put(deep(impl.MaxDeep-1)))) {
		t.Error("expressions of inner statements")
	}
	long := slices.Repeat([]impl.Stmt{put(num(1))}, 51)
	if !right(long[:50]...) || right(long...) || !right(iff(num(1), long[:50], long[:50])) || right(iff(num(1), nil, long)) || right(while(num(1), long...)) {
		t.Error("lists")
	}
}

func wantList(t *testing.T, what string, got []int, want ...int) {
	t.Helper()
	if !slices.Equal(got, want) {
		t.Errorf("%s: %v; want %v", what, got, want)
	}
}

func TestSizesVariablesSetsAndTouches(t *testing.T) {
	p := whole()
	if got := impl.SizeOf(p); got != 4+4+6+5+4 {
		t.Errorf("SizeOf = %d", got)
	}
	wantList(t, "Sets", impl.Sets(p), 0, 2)
	wantList(t, "Touches", impl.Touches(p), 0, 1)
	wantList(t, "VarsOf", impl.VarsOf(op("+", load(0, 2, vari(5)), op("-", vari(0), load(3, -1, vari(2))))), 0, 2, 5)
	for _, e := range []impl.Exp{num(7), get(), load(4, -1, num(3)), {}} {
		wantList(t, "VarsOf "+plain(e), impl.VarsOf(e))
	}
	if impl.SizeOf(impl.Program{}) != 0 || len(impl.Sets(impl.Program{})) != 0 || len(impl.Touches(impl.Program{})) != 0 {
		t.Error("the zero value")
	}
	q := prog(9, iff(load(3, -1, num(0)), []impl.Stmt{set(8, load(2, 1, num(0)))}, []impl.Stmt{while(num(1), store(1, -1, load(0, 0, num(0)), num(1)), set(3, num(1)))}))
	wantList(t, "Sets", impl.Sets(q), 3, 8)
	wantList(t, "Touches", impl.Touches(q), 0, 1, 2, 3)
}

// The chapter names no fixed answer of these for what is not ProgramOk: they tell what stands there.
func TestSizesVariablesSetsAndTouchesOfWhatIsNotRight(t *testing.T) {
	odd := impl.Exp{Kind: 9, N: 4, Kids: []impl.Exp{vari(30), {Kind: impl.ExNum, Kids: []impl.Exp{load(7, 40, num(0)), load(8, -9, num(0))}}}}
	wantList(t, "VarsOf", impl.VarsOf(odd), 30, 40)
	p := impl.Program{Vars: -1, Body: []impl.Stmt{
		{Kind: 12, N: 5, Exps: []impl.Exp{odd}, A: []impl.Stmt{{N: 99}}, B: []impl.Stmt{{Kind: impl.StStore, N: 50}}},
		{Kind: impl.StPut, B: []impl.Stmt{{N: 98}}},
	}}
	wantList(t, "Sets", impl.Sets(p), 98, 99)
	wantList(t, "Touches", impl.Touches(p), 7, 8, 50)
	if got := impl.SizeOf(p); got != 12 {
		t.Errorf("SizeOf = %d", got)
	}
	for _, n := range []int{31, 1000, 100000} {
		q := impl.Program{Body: []impl.Stmt{deepStmt(n), put(deep(n))}}
		if got := impl.SizeOf(q); got != 2*n+2+1+n+1+n/2 {
			t.Errorf("SizeOf %d deep = %d", n, got)
		}
		wantList(t, "Sets", impl.Sets(q), 2)
		wantList(t, "Touches", impl.Touches(q), 0)
		wantList(t, "VarsOf", impl.VarsOf(q.Body[1].Exps[0]), 0, 1)
		if !impl.SameProgram(q, q) || !impl.SameExp(deep(n), deep(n)) || impl.SameExp(deep(n), deep(n-1)) || impl.ProgramOk(q) {
			t.Errorf("%d deep", n)
		}
	}
}

func TestListsThatHoldThemselvesEnd(t *testing.T) {
	kids := []impl.Exp{op("+"), op("+")}
	kids[0].Kids, kids[1].Kids = kids, kids
	list := []impl.Stmt{while(kids[0]), iff(kids[1], nil, nil)}
	list[0].A, list[1].A, list[1].B = list, list, list
	p := prog(1, list...)
	if impl.ProgramOk(p) || impl.ShowProgram(p) != "" || impl.ExpOk(p, kids[0]) || impl.ShowExp(p, kids[0]) != "" {
		t.Error("it is right")
	}
	impl.SizeOf(p)
	impl.Sets(p)
	impl.Touches(p)
	impl.VarsOf(kids[0])
	impl.SameProgram(p, p)
	impl.SameExp(kids[0], kids[1])
	// A list that stands twice in one is none that holds itself.
	twice := []impl.Exp{vari(1), load(0, -1, num(0))}
	if got := impl.SizeOf(prog(2, put(op("*", op("+", twice...), op("+", twice...))))); got != 10 {
		t.Errorf("SizeOf of a list that stands twice = %d", got)
	}
}

func TestSameIsAlikeInAll(t *testing.T) {
	changes := map[string]func(p *impl.Program){
		"size":       func(p *impl.Program) { p.Sizes[1]++ },
		"a region":   func(p *impl.Program) { p.Sizes = append(p.Sizes, 1) },
		"parameters": func(p *impl.Program) { p.Params = 1 },
		"variables":  func(p *impl.Program) { p.Vars = 4 },
		"one less":   func(p *impl.Program) { p.Body = p.Body[:4] },
		"order":      func(p *impl.Program) { p.Body[0], p.Body[1] = p.Body[1], p.Body[0] },
		"Kind":       func(p *impl.Program) { p.Body[4].Kind = impl.StPut },
		"N":          func(p *impl.Program) { p.Body[0].N = 1 },
		"Base":       func(p *impl.Program) { p.Body[1].Base = 1 },
		"Exps":       func(p *impl.Program) { p.Body[1].Exps[1].Kids[0] = num(0) },
		"other list": func(p *impl.Program) { p.Body[2].A, p.Body[2].B = p.Body[2].B, p.Body[2].A },
		"A into B":   func(p *impl.Program) { p.Body[2].B = append(p.Body[2].A, p.Body[2].B...); p.Body[2].A = nil },
		"out of A":   func(p *impl.Program) { p.Body = slices.Insert(p.Body, 4, p.Body[3].A[0]); p.Body[3].A = nil },
		"inner":      func(p *impl.Program) { p.Body[3].A[0].Exps[0].Base = 2 },
		"Text":       func(p *impl.Program) { p.Body[4].Exps[0].Text = "<" },
		"kid's N":    func(p *impl.Program) { p.Body[4].Exps[0].Kids[1].N = 3 },
		"kid's Kind": func(p *impl.Program) { p.Body[4].Exps[0].Kids[1].Kind = impl.ExVar },
		"a kid more": func(p *impl.Program) { p.Body[4].Exps[0].Kids = append(p.Body[4].Exps[0].Kids, num(1)) },
	}
	if !impl.SameProgram(whole(), whole()) {
		t.Error("not the same as itself")
	}
	for name, change := range changes {
		p := whole()
		change(&p)
		if impl.SameProgram(p, whole()) || impl.SameProgram(whole(), p) || !impl.SameProgram(p, p) {
			t.Errorf("%s: SameProgram", name)
		}
	}
	// Without expressions only how long A and B are tells where a statement stands.
	bare := func(a int, b int) impl.Stmt {
		return impl.Stmt{Kind: impl.StIf, A: make([]impl.Stmt, a), B: make([]impl.Stmt, b)}
	}
	programs := []impl.Program{
		prog(0, bare(0, 0), bare(0, 0), bare(0, 0)), prog(0, impl.Stmt{}, bare(0, 0)), prog(0, bare(0, 0), impl.Stmt{}), prog(0, bare(1, 0)), prog(0, bare(0, 1)),
		prog(0, bare(1, 1)), prog(0, bare(2, 0)), prog(0, bare(0, 2)), prog(0, impl.Stmt{}, bare(1, 0)), prog(0, impl.Stmt{}, bare(0, 1)), prog(0, impl.Stmt{}, impl.Stmt{}, bare(0, 0)),
	}
	for i, a := range programs {
		for j, b := range programs {
			if got := impl.SameProgram(a, b); got != (i == j) {
				t.Errorf("SameProgram(%s, %s) = %t", plain(a), plain(b), got)
			}
		}
	}
	exps := []impl.Exp{
		num(0), num(1), vari(0), vari(1), get(), load(0, 0, num(1)), load(1, 0, num(1)), load(0, -1, num(1)), op("+", num(1), num(2)), op("-", num(1), num(2)),
		op("+", num(2), num(1)), op("+", op("+", num(1), num(2)), num(3)), op("+", num(1), op("+", num(2), num(3))), {Text: "x"}, {Base: 1}, {Kids: []impl.Exp{num(0)}},
		{Kids: []impl.Exp{num(0), num(0)}}, {Kids: []impl.Exp{{Kids: []impl.Exp{num(0)}}}}, {Kind: 7}, {Kind: -7}, op("*", op("+"), op("+", num(1))), op("*", op("+", num(1)), op("+")),
	}
	for i, a := range exps {
		for j, b := range exps {
			if got := impl.SameExp(a, b); got != (i == j) {
				t.Errorf("SameExp(%s, %s) = %t", plain(a), plain(b), got)
			}
		}
	}
	if !impl.SameExp(num(1), impl.Exp{N: 1, Kids: []impl.Exp{}}) || !impl.SameProgram(impl.Program{}, impl.Program{Sizes: []int{}, Body: []impl.Stmt{}}) {
		t.Error("an empty list and nil")
	}
	if !impl.SameProgram(prog(0, put(num(1))), prog(0, impl.Stmt{Kind: impl.StPut, Exps: []impl.Exp{num(1)}, A: []impl.Stmt{}, B: []impl.Stmt{}})) {
		t.Error("an empty list of statements and nil")
	}
}

const seeds = 3000

// Promise 2, its first half.
func TestProgramThatIsReadIsRight(t *testing.T) {
	forms := map[int]int{}
	for seed := range int64(seeds) {
		list, want := made(seed)
		text := strings.Join(list, "\n")
		if len(text) > impl.MaxText {
			continue
		}
		wantProgram(t, text, want)
		wantProgram(t, strings.Join(list, " "), want)
		for _, s := range want.Body {
			forms[s.Kind]++
		}
	}
	if len(forms) != 6 {
		t.Errorf("not each form was made: %v", forms)
	}
}

// Promise 2, its first half, of texts that are mostly wrong, and that the words ahead of the line that is told do fit.
func TestChangedProgramIsRightOrRefusedAtItsFirstMisfit(t *testing.T) {
	r := rand.New(rand.NewSource(1))
	taken, refused := 0, 0
	for seed := range int64(seeds) {
		list, _ := made(seed)
		at := r.Intn(len(list))
		other := list[r.Intn(len(list))]
		switch r.Intn(4) {
		case 0:
			list = slices.Delete(list, at, at+1)
		case 1:
			list = slices.Insert(list, at, other)
		case 2:
			list[at] = other
		case 3:
			list = append(list[:at], list[r.Intn(len(list)):]...)
		}
		if len(strings.Join(list, "\n")) > impl.MaxText {
			continue
		}
		p, line := impl.Parse(strings.Join(list, "\n"))
		if line == 0 {
			taken++
			if !impl.ProgramOk(p) {
				t.Fatalf("%q is not ProgramOk", list)
			}
			continue
		}
		refused++
		if line < 1 || line > max(1, len(list)) || plain(p) != plain(impl.Program{}) {
			t.Fatalf("%q: %s, line %d", list, plain(p), line)
		}
		if line > 1 {
			wantLine(t, strings.Join(list[:line], "\n"), line)
			if _, ahead := impl.Parse(strings.Join(list[:line-1], "\n")); ahead > 1 && ahead != line-1 {
				t.Fatalf("%q: line %d is told, and %d without it and what is behind", list, line, ahead)
			}
		}
	}
	if taken < 100 || refused < 100 {
		t.Errorf("%d taken, %d refused", taken, refused)
	}
}

// Promise 2, its second half.
func TestWhatIsTheSameShowsTheSame(t *testing.T) {
	var programs []impl.Program
	for seed := range int64(100) {
		_, p := made(seed)
		programs = append(programs, p, other(p))
	}
	p := whole()
	p.Sizes = []int{17}
	programs = append(programs, p, impl.Program{}, impl.Program{Sizes: []int{}})
	told := []string{}
	for _, p := range programs {
		told = append(told, plain(p))
	}
	same := 0
	for i, a := range programs {
		for j, b := range programs {
			if impl.SameProgram(a, b) != (told[i] == told[j]) {
				t.Fatalf("SameProgram of %s and %s", told[i], told[j])
			}
			if told[i] == told[j] {
				same++
				if impl.ShowProgram(a) != impl.ShowProgram(b) {
					t.Fatalf("%s is shown in two ways", told[i])
				}
			}
		}
	}
	if same <= len(programs) {
		t.Error("no two programs were the same")
	}
}

// Promise 2, its second half, of expressions.
func TestExpressionsThatAreTheSameShowTheSame(t *testing.T) {
	p := impl.Program{Sizes: []int{1, 2}, Vars: 5}
	exps := []impl.Exp{}
	for seed := range int64(20) {
		_, q := made(seed)
		for _, s := range q.Body {
			exps = append(exps, s.Exps...)
			exps = append(exps, otherExps(s.Exps)...)
		}
	}
	shown := 0
	for _, a := range exps {
		for _, b := range exps {
			if impl.SameExp(a, b) != (plain(a) == plain(b)) {
				t.Fatalf("SameExp of %s and %s", plain(a), plain(b))
			}
			if impl.SameExp(a, b) && impl.ShowExp(p, a) != impl.ShowExp(p, b) {
				t.Fatalf("%s is shown in two ways", plain(a))
			}
		}
		if impl.ShowExp(p, a) != "" {
			shown++
		}
		if (impl.ShowExp(p, a) != "") != impl.ExpOk(p, a) {
			t.Fatalf("%s: ExpOk and ShowExp", plain(a))
		}
	}
	if shown == 0 || shown == len(exps) {
		t.Errorf("%d of %d are shown", shown, len(exps))
	}
}

func TestProgramsAreNotWrittenInto(t *testing.T) {
	for seed := range int64(100) {
		_, p := made(seed)
		if seed%2 == 0 {
			p.Body = append(p.Body, impl.Stmt{Kind: 9, Exps: []impl.Exp{op("?", num(1), vari(77))}})
		}
		p.Sizes = append(make([]int, 0, 9), p.Sizes...)
		p.Body = append(make([]impl.Stmt, 0, 60), p.Body...)
		ahead, room := plain(p), plain(p.Body[:60])
		impl.ProgramOk(p)
		impl.ShowProgram(p)
		impl.SameProgram(p, whole())
		impl.SameProgram(p, other(p))
		impl.SizeOf(p)
		impl.Sets(p)
		impl.Touches(p)
		for _, s := range p.Body {
			for _, e := range s.Exps {
				impl.ExpOk(p, e)
				impl.ShowExp(p, e)
				impl.SameExp(e, num(1))
				impl.VarsOf(e)
			}
		}
		if plain(p) != ahead || plain(p.Body[:60]) != room {
			t.Fatalf("seed %d: written into", seed)
		}
	}
}

func TestAnswersOfProgramsAreNewMemory(t *testing.T) {
	for seed := range int64(100) {
		list, want := made(seed)
		text := strings.Join(list, " ")
		p, line := impl.Parse(text)
		if line != 0 {
			continue
		}
		fill(&p)
		if plain(p) != plain(want) {
			t.Fatalf("%q: two lists share memory", text)
		}
		for i := range p.Body {
			p.Body[i] = impl.Stmt{}
		}
		if again, _ := impl.Parse(text); plain(again) != plain(want) {
			t.Fatalf("%q: another answer than ahead", text)
		}
	}
	p := parsed(t, body("put x + y;"))
	text := body("put x + y;")
	q, _ := impl.Parse(text)
	if within(q.Body[0].Exps[0].Text, text) {
		t.Error("the sign shares memory with the argument")
	}
	sets := impl.Sets(whole())
	sets[0] = 77
	touches := impl.Touches(whole())
	touches[0] = 77
	vars := impl.VarsOf(p.Body[0].Exps[0])
	vars[0] = 77
	wantList(t, "Sets", impl.Sets(whole()), 0, 2)
	wantList(t, "Touches", impl.Touches(whole()), 0, 1)
	wantList(t, "VarsOf", impl.VarsOf(p.Body[0].Exps[0]), 0, 1)
}
