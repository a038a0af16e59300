package tests

import (
	"math"
	"math/rand"
	"slices"
	"testing"

	"loop.example/g00385/impl"
)

// wantMean tells a body with parameters x and y, a of 4 places and b of 2 what it has to do.
func wantMean(t *testing.T, s string, args []int, input []int, want string) {
	t.Helper()
	wantEnd(t, s, impl.Mean(parsed(t, body(s)), args, input, 1000), want)
}

func wantEnd(t *testing.T, what string, e impl.End, want string) {
	t.Helper()
	if got := impl.EndText(e); got != want {
		t.Errorf("%s: %q; want %q", what, got, want)
	}
	if e.Code != impl.EndDone && e.Val != 0 || e.Code == impl.EndNone && len(e.Out) != 0 {
		t.Errorf("%s: %+v tells more than it has", what, e)
	}
}

func wantNeeds(t *testing.T, s string, args []int, input []int, want int) {
	t.Helper()
	if got := impl.Needs(parsed(t, body(s)), args, input); got != want {
		t.Errorf("%q with %v / %v needs %d; want %d", s, args, input, got, want)
	}
}

func TestBinOfEachSign(t *testing.T) {
	const most, least = math.MaxInt, math.MinInt
	cases := []struct {
		sign       string
		a, b, want int
	}{
		{"+", 2, 3, 5}, {"+", -2, 1, -1}, {"+", most, 1, least}, {"+", least, -1, most}, {"+", most, most, -2}, {"+", least, least, 0},
		{"-", 2, 3, -1}, {"-", -2, -3, 1}, {"-", least, 1, most}, {"-", most, -1, least}, {"-", 0, least, least}, {"-", most, least, -1},
		{"*", 6, 7, 42}, {"*", -6, 7, -42}, {"*", most, 2, -2}, {"*", least, -1, least}, {"*", least, 2, 0}, {"*", 1 << 32, 1 << 32, 0},
		{"*", 1 << 31, 1 << 32, least}, {"*", most, most, 1},
		{"&", 12, 10, 8}, {"&", 1, 2, 0}, {"&", -1, 77, 77}, {"&", -2, -3, -4}, {"&", most, least, 0}, {"&", least, -1, least},
		{"==", 3, 3, 1}, {"==", 3, 4, 0}, {"==", 4, 3, 0}, {"==", most, least, 0}, {"==", least, least, 1},
		{"<", 3, 4, 1}, {"<", 4, 3, 0}, {"<", 3, 3, 0}, {"<", -1, 0, 1}, {"<", least, most, 1}, {"<", most, least, 0}, {"<", -2, -1, 1},
		{"/", 4, 2, 0}, {"", 4, 2, 0}, {"=", 4, 4, 0}, {">", 4, 2, 0}, {"<=", 4, 4, 0}, {"+ ", 4, 2, 0}, {" +", 4, 2, 0}, {"++", 4, 2, 0},
		{"===", 4, 4, 0}, {"<<", 1, 2, 0}, {"&&", 1, 1, 0}, {"**", 2, 2, 0}, {"|", 1, 2, 0}, {"\x00", 1, 2, 0}, {"\xff", 1, 2, 0}, {"put", 1, 1, 0},
	}
	for _, c := range cases {
		if got := impl.Bin(c.sign, c.a, c.b); got != c.want {
			t.Errorf("Bin(%q, %d, %d) = %d; want %d", c.sign, c.a, c.b, got, c.want)
		}
	}
	numbers := []int{least, least + 1, -1 << 32, -7, -2, -1, 0, 1, 2, 3, 8, 1 << 31, 1 << 32, 1<<32 + 1, 3037000500, most - 1, most}
	for _, sign := range []string{"==", "<", "&", "+", "-", "*"} {
		for _, a := range numbers {
			for _, b := range numbers {
				if got, want := impl.Bin(sign, a, b), around(sign, a, b); got != want {
					t.Errorf("Bin(%q, %d, %d) = %d; want %d", sign, a, b, got, want)
				}
			}
		}
	}
}

func TestMeanOfEachExpression(t *testing.T) {
	args := []int{5, -7}
	wantMean(t, "put 0; put 12; return 999999999;", args, nil, "done 999999999 0 12")
	wantMean(t, "put x; put y; let z = x; put z; return z;", args, nil, "done 5 5 -7 5")
	wantMean(t, "put get; put get; put get; put get; return get;", args, []int{8, 0, -9}, "done -1 8 0 -9 -1")
	wantMean(t, "put get; return get;", args, nil, "done -1 -1")
	wantMean(t, "put x + y; put x - y; put x * y; put x & y; put x == y; put x < y; put y < x; put x == 5;", args, nil, "done 0 -2 12 -35 1 0 0 1 1")
	wantMean(t, "put a[0]; put a[3]; put b[1]; return b[0];", args, nil, "done 0 0 0 0")
	wantMean(t, "a[1] = 7; b[1] = 8; ptr p in a = 1; ptr q in b = 1; put p[0]; put q[0]; put p[1]; put a[p]; put b[p]; put a[q];", args, nil, "done 0 7 8 0 7 8 7")
	wantMean(t, "a[2] = 1; a[1] = 3; a[3] = 9; put a[a[a[2]]];", args, nil, "done 0 9")
	wantMean(t, "put 2 + 3 * 4 - 1 < 14; put (2 + 3) * 4; put 7 - 2 - 1; put 6 & 3 + 1;", args, nil, "done 0 1 20 4 3")
}

func TestMeanOfEachStatement(t *testing.T) {
	args := []int{5, -7}
	wantMean(t, "", args, nil, "done 0")
	wantMean(t, "let z = x + 1; let w = z; z = z * 2; put z; put w; x = 9; put x; put y;", args, nil, "done 0 12 6 9 -7")
	// A variable is 0 where no statement has set it, whatever stands around the one in which it is new.
	wantMean(t, "if 0 { let z = 4; } else { put z; } z = z + 2; put z;", args, nil, "done 0 0 2")
	wantMean(t, "a[0] = 1; a[3] = 2; b[0] = 3; b[1] = 4; a[0] = a[0] + 10; put a[0]; put a[1]; put a[2]; put a[3]; put b[0]; put b[1];", args, nil, "done 0 11 0 0 2 3 4")
	wantMean(t, "if x { put 1; put 2; } else { put 3; } put 4;", args, nil, "done 0 1 2 4")
	wantMean(t, "if y { put 1; } else { put 3; } put 4;", args, nil, "done 0 1 4")
	wantMean(t, "if x - 5 { put 1; put 2; } else { put 3; put 5; } put 4;", args, nil, "done 0 3 5 4")
	wantMean(t, "if 1 { } else { put 3; } if 0 { put 4; } else { }", args, nil, "done 0")
	wantMean(t, "while x { put x; x = x - 2; if x == 1 { x = 0; } else { } } put 100;", args, nil, "done 0 5 3 100")
	wantMean(t, "while 0 { put 1; } while y < 0 - 5 { y = y + 1; } put y;", args, nil, "done 0 -5")
	wantMean(t, "while x < 8 { let i = 0; while i < x - 5 { put i; i = i + 1; } put x; x = x + 1; }", args, nil, "done 0 5 0 6 0 1 7")
	wantMean(t, "while get { put get; }", args, []int{1, 8, -1, 9, 0, 7}, "done 0 8 9")
	wantMean(t, "put 1; return x + 1; put 2;", args, nil, "done 6 1")
	wantMean(t, "while 1 { if x { put x; x = x - 1; } else { return y; } }", args, nil, "done -7 5 4 3 2 1")
	wantMean(t, "return 0; return 1;", args, nil, "done 0")
	// A variable keeps what it has where its statement is not done again.
	wantMean(t, "let n = 0; while n < 3 { if n == 0 { let z = 7; } else { z = z + 1; put z; } n = n + 1; }", args, nil, "done 0 8 9")
}

func TestMeanReckonsInOrder(t *testing.T) {
	args := []int{0, 0}
	wantMean(t, "put get - get; put get * 10 + get * 100; put get < get; put get == (get - get);", args, []int{9, 4, 1, 2, 3, 5, 6, 8, 2}, "done 0 5 210 1 1")
	wantMean(t, "put (get - get) - (get - get);", args, []int{100, 10, 7, 1}, "done 0 84")
	wantMean(t, "a[get] = get; put a[0]; put a[1]; put a[2]; put a[3];", args, []int{3, 1}, "done 0 0 0 0 1")
	wantMean(t, "a[get - get] = get - get; put a[2];", args, []int{3, 1, 9, 4}, "done 0 5")
	wantMean(t, "ptr p in a = get; p[get] = get; put a[3];", args, []int{1, 2, 8}, "done 0 8")
	wantMean(t, "a[3] = 5; put a[get] - get;", args, []int{3, 1}, "done 0 4")
	wantMean(t, "a[3] = 5; put get - a[get];", args, []int{3, 1}, "done 0 3")
	// b has 2 places and a 4: which one gets the 3 tells who was first.
	wantMean(t, "put 1; put a[get] + b[get]; put 2;", args, []int{3, 1}, "done 0 1 0 2")
	wantMean(t, "put 1; put a[get] + b[get]; put 2;", args, []int{1, 3}, "trap 1")
	wantMean(t, "put 1; a[get] = b[get]; put 2;", args, []int{3, 1}, "done 0 1 2")
	wantMean(t, "put 1; a[get] = b[get]; put 2;", args, []int{1, 3}, "trap 1")
	wantMean(t, "put 1; b[get] = a[get]; put 2;", args, []int{3, 1}, "trap 1")
	wantMean(t, "put 1; b[get] = a[get]; put 2;", args, []int{1, 3}, "done 0 1 2")
	wantMean(t, "put 1; a[b[get]] = a[get]; put 2;", args, []int{3, 1}, "trap 1")
	wantMean(t, "put 1; put a[b[get] + get] + b[get]; put 2;", args, []int{1, 3, 0}, "done 0 1 0 2")
	// What is stored is reckoned ahead of the store, by what stands there till then.
	wantMean(t, "a[0] = 1; a[a[0]] = a[0] + a[1]; a[a[0]] = a[0] + a[1]; put a[1];", args, nil, "done 0 2")
	wantMean(t, "ptr p in a = 1; p[p] = p; p = p + p[1]; put p; put a[2];", args, nil, "done 0 2 1")
}

func TestMeanAtTheEdgesOfRegions(t *testing.T) {
	const most, least = math.MaxInt, math.MinInt
	for _, size := range []int{1, 2, 4, 15, 16} {
		p := impl.Program{Sizes: []int{16, size, 16}, Params: 2, Vars: 2}
		right := func(x int) bool { return 0 <= x && x < size }
		for _, x := range []int{least, -16, -1, 0, size - 1, size, size + 1, 16, 17, most} {
			for _, y := range []int{least, least + 1, 1 - size, -1, 0, 1, size - 1, size, most - 1, most} {
				for _, way := range []struct {
					place impl.Exp
					base  int
					right bool
				}{
					{vari(0), -1, right(x)}, {vari(0), 1, right(around("+", x, y))}, {vari(1), 0, right(around("+", x, y))},
					{op("+", vari(0), vari(1)), -1, right(around("+", x, y))},
				} {
					p.Body = []impl.Stmt{put(num(3)), store(1, way.base, way.place, num(9)), put(load(1, way.base, way.place))}
					want := "trap 3"
					if way.right {
						want = "done 0 3 9"
					}
					wantEnd(t, impl.ShowProgram(p), impl.Mean(p, []int{x, y}, nil, 9), want)
					p.Body = []impl.Stmt{put(num(3)), set(0, load(1, way.base, way.place)), put(vari(0))}
					if way.right {
						want = "done 0 3 0"
					}
					wantEnd(t, impl.ShowProgram(p), impl.Mean(p, []int{x, y}, nil, 9), want)
				}
			}
		}
	}
}

func TestMeanStoresAtOnePlaceAlone(t *testing.T) {
	sizes := []int{3, 1, 16, 2}
	for region, size := range sizes {
		for place := range size {
			p := impl.Program{Sizes: sizes, Body: []impl.Stmt{store(region, -1, num(place), num(8))}}
			want := "done 0"
			for r, s := range sizes {
				for i := range s {
					p.Body = append(p.Body, put(load(r, -1, num(i))))
					if r == region && i == place {
						want += " 8"
					} else {
						want += " 0"
					}
				}
			}
			wantEnd(t, impl.ShowProgram(p), impl.Mean(p, nil, nil, 100), want)
		}
	}
}

func TestMeanReckonsAround64Bits(t *testing.T) {
	const most, least = math.MaxInt, math.MinInt
	wantMean(t, "put x + 1; put x - y; put x * x; put y - 1; put y * y; put x * 2; put y < x; put x < y; put x & y;", []int{most, least}, nil,
		"done 0 -9223372036854775808 -1 1 9223372036854775807 0 -2 1 0 0")
	// What comes out around 64 bits may be a place, or none.
	wantMean(t, "ptr p in a = x; p[y] = 7; put a[0]; put p[y + 3];", []int{least, least}, nil, "done 0 7 0")
	wantMean(t, "ptr p in a = x; p[y] = 7; put a[2];", []int{most, least + 3}, nil, "done 0 7")
	wantMean(t, "ptr p in a = x; put p[y];", []int{most, least}, nil, "trap")
	wantMean(t, "ptr p in a = x; put p[1];", []int{most, 0}, nil, "trap")
	wantMean(t, "ptr p in a = x; put p[y];", []int{least, least + 4}, nil, "trap")
	wantMean(t, "ptr p in a = x; put p[y];", []int{least, least + 3}, nil, "done 0 0")
	wantMean(t, "return x;", []int{least, 0}, nil, "done -9223372036854775808")
	wantMean(t, "put get; return get;", []int{0, 0}, []int{least, most}, "done 9223372036854775807 -9223372036854775808")
}

func TestMeanTakesFuel(t *testing.T) {
	args := []int{2, 0}
	for _, c := range []struct {
		body  string
		needs int
		ends  []string
	}{
		{"", 0, []string{"done 0"}},
		{"put x;", 1, []string{"fuel", "done 0 2"}},
		{"let z = 1;", 1, []string{"fuel", "done 0"}},
		{"ptr p in b = 1;", 1, []string{"fuel", "done 0"}},
		{"a[0] = 1;", 1, []string{"fuel", "done 0"}},
		{"return 4;", 1, []string{"fuel", "done 4"}},
		{"if 1 { } else { }", 1, []string{"fuel", "done 0"}},
		{"if 0 { } else { }", 1, []string{"fuel", "done 0"}},
		{"while 0 { }", 1, []string{"fuel", "done 0"}},
		{"put a[4];", 1, []string{"fuel", "trap"}},
		{"a[4] = 1;", 1, []string{"fuel", "trap"}},
		{"while a[4] { }", 1, []string{"fuel", "trap"}},
		{"if a[4] { } else { }", 1, []string{"fuel", "trap"}},
		{"return a[4];", 1, []string{"fuel", "trap"}},
		{"put 1; put 2; put a[4];", 3, []string{"fuel", "fuel 1", "fuel 1 2", "trap 1 2"}},
		{"put 1; return 2; put 3;", 2, []string{"fuel", "fuel 1", "done 2 1"}},
		{"put 1; if 1 { put 2; } else { } put 3;", 4, []string{"fuel", "fuel 1", "fuel 1", "fuel 1 2", "done 0 1 2 3"}},
		{"if 0 { } else { put 2; }", 2, []string{"fuel", "fuel", "done 0 2"}},
		{"while x { put x; x = x - 1; } put 9;", 8, []string{"fuel", "fuel", "fuel 2", "fuel 2", "fuel 2", "fuel 2 1", "fuel 2 1", "fuel 2 1", "done 0 2 1 9"}},
		{"while x { x = x - 1; }", 5, []string{"fuel", "fuel", "fuel", "fuel", "fuel", "done 0"}},
	} {
		p := parsed(t, body(c.body))
		if len(c.ends) != c.needs+1 {
			t.Fatalf("%q: %d ends", c.body, len(c.ends))
		}
		for fuel, want := range c.ends {
			wantEnd(t, c.body, impl.Mean(p, args, nil, fuel), want)
		}
		for _, fuel := range []int{c.needs + 1, 1000, impl.MaxFuel} {
			wantEnd(t, c.body, impl.Mean(p, args, nil, fuel), c.ends[c.needs])
		}
		wantNeeds(t, c.body, args, nil, c.needs)
	}
	endless := parsed(t, body("while 1 { }"))
	for _, fuel := range []int{0, 1, 1000, impl.MaxFuel} {
		wantEnd(t, "endless", impl.Mean(endless, args, nil, fuel), "fuel")
	}
}

func TestMeanAtTheEdgesOfFuel(t *testing.T) {
	p := parsed(t, body("while x { x = x - 1; } put y;"))
	for _, c := range []struct {
		x, fuel int
		want    string
	}{
		{0, 0, "fuel"}, {0, 1, "fuel"}, {0, 2, "done 0 3"}, {0, impl.MaxFuel, "done 0 3"},
		{49999, impl.MaxFuel, "done 0 3"}, {49999, impl.MaxFuel - 1, "fuel"}, {50000, impl.MaxFuel, "fuel"}, {-1, impl.MaxFuel, "fuel"},
		{0, impl.MaxFuel + 1, "none"}, {0, -1, "none"}, {0, math.MaxInt, "none"}, {0, math.MinInt, "none"},
	} {
		wantEnd(t, "loop", impl.Mean(p, []int{c.x, 3}, nil, c.fuel), c.want)
	}
	many := parsed(t, body("while 1 { put x; x = x + 1; }"))
	e := impl.Mean(many, []int{0, 0}, nil, impl.MaxFuel)
	if e.Code != impl.EndFuel || len(e.Out) != 33333 || e.Out[0] != 0 || e.Out[33332] != 33332 {
		t.Errorf("an endless loop puts %d numbers out and ends with %d", len(e.Out), e.Code)
	}
}

func TestInputOf100NumbersAndMore(t *testing.T) {
	p := parsed(t, "mem a[1]; fn () { let i = 0; while i < 99 { i = i + get; } put get; put get; put get; }")
	input := slices.Repeat([]int{1}, 100)
	input[99] = 6
	wantEnd(t, "100", impl.Mean(p, nil, input, 1000), "done 0 6 -1 -1")
	if got := impl.Needs(p, nil, input); got != 1+99*2+1+3 {
		t.Errorf("Needs = %d", got)
	}
	for _, more := range []int{101, 102, 5000} {
		long := slices.Repeat([]int{1}, more)
		wantEnd(t, "more", impl.Mean(p, nil, long, 1000), "none")
		if got := impl.Needs(p, nil, long); got != -1 {
			t.Errorf("Needs with %d numbers = %d", more, got)
		}
		wantEnds(t, impl.Again(p, nil, long, 2), "none", "none")
	}
}

func wantEnds(t *testing.T, got []impl.End, want ...string) {
	t.Helper()
	texts := []string{}
	for _, e := range got {
		texts = append(texts, impl.EndText(e))
	}
	if !slices.Equal(texts, want) {
		t.Errorf("ends %q; want %q", texts, want)
	}
}

func TestAgainTellsMeanOfEachFuel(t *testing.T) {
	p := parsed(t, body("while x { put x; x = x - 1; } return y;"))
	args := []int{2, 8}
	want := []string{"fuel", "fuel", "fuel 2", "fuel 2", "fuel 2", "fuel 2 1", "fuel 2 1", "fuel 2 1", "done 8 2 1"}
	for n := range len(want) + 1 {
		wantEnds(t, impl.Again(p, args, nil, n), want[:n]...)
	}
	most := impl.Again(p, args, nil, 60)
	wantEnds(t, most[:9], want...)
	wantEnds(t, most[9:], slices.Repeat([]string{"done 8 2 1"}, 51)...)
	for _, n := range []int{-1, -60, 61, 1000, math.MinInt, math.MaxInt} {
		wantEnds(t, impl.Again(p, args, nil, n))
		wantEnds(t, impl.Again(impl.Program{}, args, nil, n))
	}
	wantEnds(t, impl.Again(p, nil, nil, 3), "none", "none", "none")
	wantEnds(t, impl.Again(impl.Program{}, nil, nil, 2), "none", "none")
	wantEnds(t, impl.Again(impl.Program{}, nil, nil, 0))
	wantEnds(t, impl.Again(impl.Program{Sizes: []int{1}}, nil, nil, 1), "done 0")
}

func TestNeedsUpTo1000(t *testing.T) {
	const loop = "while x { x = x - 1; } "
	wantNeeds(t, loop, []int{498, 0}, nil, 997)
	wantNeeds(t, loop, []int{499, 0}, nil, 999)
	wantNeeds(t, loop+"put 1;", []int{499, 0}, nil, 1000)
	wantNeeds(t, loop+"return 1;", []int{499, 0}, nil, 1000)
	wantNeeds(t, loop+"put a[4];", []int{499, 0}, nil, 1000)
	wantNeeds(t, loop, []int{500, 0}, nil, -1)
	wantNeeds(t, loop+"put 1; put 2;", []int{499, 0}, nil, -1)
	wantNeeds(t, loop+"put 1; put a[4];", []int{499, 0}, nil, -1)
	wantNeeds(t, loop+"put 1; return 0;", []int{499, 0}, nil, -1)
	wantNeeds(t, loop, []int{501, 0}, nil, -1)
	wantNeeds(t, loop, []int{-1, 0}, nil, -1)
	wantNeeds(t, "while 1 { }", []int{0, 0}, nil, -1)
	wantNeeds(t, "while get + 1 { }", []int{0, 0}, []int{3, 3, 3}, 4)
}

// wrongStarts are calls that Mean tells EndNone of, each for one reason.
func wrongStarts() map[string]func() (impl.Program, []int, []int) {
	starts := map[string]func() (impl.Program, []int, []int){
		"no args":     func() (impl.Program, []int, []int) { return whole(), nil, nil },
		"few args":    func() (impl.Program, []int, []int) { return whole(), []int{1}, nil },
		"many args":   func() (impl.Program, []int, []int) { return whole(), []int{1, 2, 3}, nil },
		"args as all": func() (impl.Program, []int, []int) { return prog(2), []int{1, 2}, nil },
		"long input":  func() (impl.Program, []int, []int) { return whole(), []int{1, 2}, make([]int, 101) },
		"zero value":  func() (impl.Program, []int, []int) { return impl.Program{}, nil, nil },
	}
	changes := map[string]func(p *impl.Program){
		"no region":         func(p *impl.Program) { p.Sizes = nil },
		"size 0":            func(p *impl.Program) { p.Sizes[1] = 0 },
		"size 17":           func(p *impl.Program) { p.Sizes[0] = 17 },
		"size below 0":      func(p *impl.Program) { p.Sizes[0] = -1 },
		"vars below params": func(p *impl.Program) { p.Vars = 1 },
		"vars below 0":      func(p *impl.Program) { p.Vars = -1 },
		"vars 21":           func(p *impl.Program) { p.Vars = 21 },
		"another kind":      func(p *impl.Program) { p.Body[0].Kind = 6 },
		"kind below 0":      func(p *impl.Program) { p.Body[4].Kind = -1 },
		"another variable":  func(p *impl.Program) { p.Body[0].N = 3 },
		"another region":    func(p *impl.Program) { p.Body[1].N = 2 },
		"another base":      func(p *impl.Program) { p.Body[1].Base = 3 },
		"base below -1":     func(p *impl.Program) { p.Body[1].Base = -2 },
		"no expression":     func(p *impl.Program) { p.Body[2].Exps = nil },
		"one of two":        func(p *impl.Program) { p.Body[1].Exps = p.Body[1].Exps[:1] },
		"no kid":            func(p *impl.Program) { p.Body[0].Exps[0].Kids = nil },
		"one kid":           func(p *impl.Program) { p.Body[0].Exps[0].Kids = p.Body[0].Exps[0].Kids[:1] },
		"another sign":      func(p *impl.Program) { p.Body[0].Exps[0].Text = "/" },
		"a number below 0":  func(p *impl.Program) { p.Body[0].Exps[0].Kids[1].N = -1 },
		"a great number":    func(p *impl.Program) { p.Body[0].Exps[0].Kids[1].N = 1000000000 },
		"a load of nothing": func(p *impl.Program) { p.Body[1].Exps[1].Kids = nil },
		"too deep":          func(p *impl.Program) { p.Body[0].Exps[0] = deep(impl.MaxDeep) },
		"far too deep":      func(p *impl.Program) { p.Body[0] = deepStmt(100000) },
		"51 statements":     func(p *impl.Program) { p.Body = slices.Repeat([]impl.Stmt{put(num(1))}, 51) },
		"holds itself":      func(p *impl.Program) { p.Body[3].A = p.Body },
		// It is wrong, though no run comes to it.
		"behind the end": func(p *impl.Program) { p.Body = append(p.Body, set(9, num(1))) },
		"not done":       func(p *impl.Program) { p.Body[3].A[0].Kind = 9 },
	}
	for name, change := range changes {
		starts[name] = func() (impl.Program, []int, []int) {
			p := whole()
			change(&p)
			return p, []int{1, 2}, nil
		}
	}
	return starts
}

func TestMeanOfWrongInputs(t *testing.T) {
	if got := impl.EndText(impl.Mean(whole(), []int{0, 2}, nil, 100)); got != "trap" {
		t.Fatalf("the program to be changed ends %q", got)
	}
	for name, start := range wrongStarts() {
		p, args, input := start()
		for _, fuel := range []int{-1, 0, 1, 1000, impl.MaxFuel, impl.MaxFuel + 1} {
			wantEnd(t, name, impl.Mean(p, args, input, fuel), "none")
		}
		if got := impl.Needs(p, args, input); got != -1 {
			t.Errorf("%s: Needs = %d", name, got)
		}
		wantEnds(t, impl.Again(p, args, input, 2), "none", "none")
	}
}

func TestEndTextOfEachCode(t *testing.T) {
	for _, c := range []struct {
		end  impl.End
		want string
	}{
		{impl.End{}, "done 0"}, {impl.End{Val: -12}, "done -12"}, {impl.End{Val: 7, Out: []int{}}, "done 7"},
		{impl.End{Val: 7, Out: []int{0, -3, 12}}, "done 7 0 -3 12"}, {impl.End{Val: math.MinInt, Out: []int{math.MaxInt}}, "done -9223372036854775808 9223372036854775807"},
		{impl.End{Code: impl.EndTrap}, "trap"}, {impl.End{Code: impl.EndTrap, Val: 5, Out: []int{1, 2}}, "trap 1 2"},
		{impl.End{Code: impl.EndFuel}, "fuel"}, {impl.End{Code: impl.EndFuel, Val: 5, Out: []int{-1}}, "fuel -1"},
		{impl.End{Code: impl.EndNone}, "none"}, {impl.End{Code: impl.EndNone, Val: 5, Out: []int{9}}, "none 9"},
		{impl.End{Code: 4}, ""}, {impl.End{Code: -1, Out: []int{1}}, ""}, {impl.End{Code: 4, Val: 1, Out: []int{1}}, ""},
		{impl.End{Code: math.MaxInt}, ""}, {impl.End{Code: math.MinInt}, ""},
	} {
		if got := impl.EndText(c.end); got != c.want {
			t.Errorf("EndText(%+v) = %q; want %q", c.end, got, c.want)
		}
	}
}

func TestSameEndIsAlikeInAll(t *testing.T) {
	ends := []impl.End{
		{}, {Val: 1}, {Val: -1}, {Code: 1}, {Code: 2}, {Code: 3}, {Code: 4}, {Code: -1}, {Code: 1, Val: 1},
		{Out: []int{0}}, {Out: []int{1}}, {Out: []int{1, 2}}, {Out: []int{2, 1}}, {Out: []int{1, 2, 0}}, {Code: 2, Out: []int{1}}, {Val: 1, Out: []int{1}},
	}
	for i, a := range ends {
		for j, b := range ends {
			b.Out = append([]int{}, b.Out...)
			if impl.SameEnd(a, b) != (i == j) || impl.SameEnd(b, a) != (i == j) {
				t.Errorf("SameEnd(%+v, %+v) = %v", a, b, impl.SameEnd(a, b))
			}
		}
	}
}

func TestPrefix(t *testing.T) {
	for _, c := range []struct {
		a, b []int
		want bool
	}{
		{nil, nil, true}, {[]int{}, nil, true}, {nil, []int{}, true}, {nil, []int{1}, true}, {[]int{1}, nil, false}, {[]int{0}, nil, false},
		{[]int{1}, []int{1}, true}, {[]int{1}, []int{1, 2}, true}, {[]int{1, 2}, []int{1}, false}, {[]int{2}, []int{1, 2}, false},
		{[]int{1, 2}, []int{1, 2, 3}, true}, {[]int{1, 3}, []int{1, 2, 3}, false}, {[]int{2, 3}, []int{1, 2, 3}, false},
		{[]int{0, 2}, []int{1, 2}, false}, {[]int{1, 2, 0}, []int{1, 2}, false}, {[]int{math.MinInt}, []int{math.MinInt, 0}, true},
	} {
		if got := impl.Prefix(c.a, c.b); got != c.want {
			t.Errorf("Prefix(%v, %v) = %v", c.a, c.b, got)
		}
	}
	// What stands in the spare room behind a list does not belong to it.
	long := []int{1, 2, 3}
	if impl.Prefix(long, long[:2]) {
		t.Error("a longer list is a beginning")
	}
}

// start tells a program that is made, with numbers small enough to be places, and what it is begun with.
func start(seed int64) (impl.Program, []int, []int) {
	_, p := made(seed)
	r := rand.New(rand.NewSource(-seed))
	if r.Intn(4) > 0 {
		smallList(p.Body, r.Intn(6)+1)
	}
	return p, someNumbers(r, p.Params), someNumbers(r, r.Intn(8))
}

func someNumbers(r *rand.Rand, n int) []int {
	list := []int{}
	for range n {
		list = append(list, someNumber(r))
	}
	return list
}

func someNumber(r *rand.Rand) int {
	switch r.Intn(8) {
	case 0:
		return math.MinInt + r.Intn(4)
	case 1:
		return math.MaxInt - r.Intn(4)
	case 2:
		return int(r.Uint64())
	}
	return r.Intn(7) - 2
}

func smallList(list []impl.Stmt, below int) {
	for _, s := range list {
		smallExps(s.Exps, below)
		smallList(s.A, below)
		smallList(s.B, below)
	}
}

func smallExps(list []impl.Exp, below int) {
	for i := range list {
		if list[i].Kind == impl.ExNum {
			list[i].N %= below
		}
		smallExps(list[i].Kids, below)
	}
}

func TestMeanIsWhatIsToldOfEachStatement(t *testing.T) {
	codes := map[int]int{}
	for seed := range int64(seeds) {
		p, args, input := start(seed)
		if !impl.ProgramOk(p) {
			continue
		}
		tale := told(p, args, input, 1000)
		for _, fuel := range []int{0, 1, 2, 3, 5, 8, 13, 40, 100, 999, 1000} {
			got, want := impl.Mean(p, args, input, fuel), tale.withFuel(fuel)
			if impl.EndText(got) != impl.EndText(want) || got.Code != want.Code || !impl.SameEnd(got, want) {
				t.Fatalf("%q with %v / %v and fuel %d: %+v; want %+v", impl.ShowProgram(p), args, input, fuel, got, want)
			}
		}
		codes[tale.end.Code]++
	}
	for code := range 3 {
		if codes[code] < seeds/50 {
			t.Errorf("only %d programs end with code %d", codes[code], code)
		}
	}
}

func TestWhatIsDoneWithSomeFuelIsDoneWithMore(t *testing.T) {
	for seed := range int64(seeds) {
		p, args, input := start(seed)
		ends := impl.Again(p, args, input, 60)
		if len(ends) != 60 {
			t.Fatalf("seed %d: %d ends", seed, len(ends))
		}
		for fuel, e := range ends {
			if !impl.SameEnd(e, impl.Mean(p, args, input, fuel)) {
				t.Fatalf("seed %d: another end with fuel %d", seed, fuel)
			}
			for _, more := range slices.Concat(ends[fuel:], []impl.End{impl.Mean(p, args, input, 100+fuel), impl.Mean(p, args, input, 5000)}) {
				if e.Code != impl.EndFuel && !impl.SameEnd(e, more) || !impl.Prefix(e.Out, more.Out) {
					t.Fatalf("seed %d, fuel %d: %+v, with more %+v", seed, fuel, e, more)
				}
			}
		}
	}
}

func TestWithAsMuchAsIsNeededItEnds(t *testing.T) {
	ended := 0
	for seed := range int64(seeds) {
		p, args, input := start(seed)
		needs := impl.Needs(p, args, input)
		if needs == -1 {
			if e := impl.Mean(p, args, input, 1000); e.Code != impl.EndFuel && e.Code != impl.EndNone {
				t.Fatalf("seed %d: nothing is enough, but %+v", seed, e)
			}
			continue
		}
		e := impl.Mean(p, args, input, needs)
		if needs < 0 || needs > 1000 || e.Code != impl.EndDone && e.Code != impl.EndTrap {
			t.Fatalf("seed %d: with %d it ends %+v", seed, needs, e)
		}
		for fuel := range needs {
			if less := impl.Mean(p, args, input, fuel); less.Code != impl.EndFuel {
				t.Fatalf("seed %d: %d is needed, but with %d it ends %+v", seed, needs, fuel, less)
			}
		}
		if needs > 1 {
			ended++
		}
	}
	if ended < seeds/10 {
		t.Errorf("only %d programs need more than 1", ended)
	}
}

func TestMeaningIsNotWrittenInto(t *testing.T) {
	for seed := range int64(300) {
		p, args, input := start(seed)
		if seed%5 == 0 {
			p.Vars++
			p.Body = append([]impl.Stmt{store(0, -1, num(0), num(1)), set(0, num(77)), put(get())}, p.Body...)
		}
		p.Body = append(make([]impl.Stmt, 0, 60), p.Body...)
		args, input = append(make([]int, 0, 40), args...), append(make([]int, 0, 40), input...)
		out := append(make([]int, 0, 40), 1, 2, 3)
		ahead := plain([]any{p, p.Body[:60], args[:40], input[:40], out[:40]})
		impl.Mean(p, args, input, 100)
		impl.Again(p, args, input, 30)
		impl.Needs(p, args, input)
		impl.EndText(impl.End{Out: out})
		impl.SameEnd(impl.End{Out: out}, impl.End{Out: out[:2]})
		impl.Prefix(out[:2], out)
		if plain([]any{p, p.Body[:60], args[:40], input[:40], out[:40]}) != ahead {
			t.Fatalf("seed %d: written into", seed)
		}
	}
}

func TestAnswersOfMeaningAreNewMemory(t *testing.T) {
	for seed := range int64(300) {
		p, args, input := start(seed)
		ends := impl.Again(p, args, input, 60)
		texts := []string{}
		for _, e := range ends {
			texts = append(texts, impl.EndText(e))
		}
		for i := range ends {
			out := ends[i].Out
			for j := range out {
				out[j] = -77
			}
			_ = append(out, -77)
			ends[i].Out = nil
			for j := range ends[i+1:] {
				if impl.EndText(ends[i+1+j]) != texts[i+1+j] {
					t.Fatalf("seed %d: the ends %d and %d share memory", seed, i, i+1+j)
				}
			}
		}
		wantEnds(t, impl.Again(p, args, input, 60), texts...)
	}
}
