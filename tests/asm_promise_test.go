package tests

import (
	"fmt"
	"math"
	"math/rand"
	"strings"
	"testing"

	"loop.example/g00385/impl"
)

// wantSameText tells that an image that is ImageOk comes back from its text, which is told a second time, line by line.
func wantSameText(t *testing.T, name string, m impl.Image) {
	t.Helper()
	s := impl.Asm(m)
	if want := asmAgain(m); s != want {
		t.Fatalf("%s: Asm of %.500s is\n%.500s\nwant\n%.500s", name, plain(m), s, want)
	}
	if got, line := impl.ReadAsm(s); line != 0 || !impl.SameImage(got, m) {
		t.Fatalf("%s:\n%.500s\nis read as %.500s, %d", name, s, plain(got), line)
	}
	// AsmWord asks of the whole image each time: of a long one some words are enough.
	for at := 0; at < len(m.Code); at += 1 + len(m.Code)/200 {
		if got := impl.AsmWord(m, at); got != lineAgain(m.Code[at]) {
			t.Fatalf("%s: word %d of\n%.500s\nis %q", name, at, s, got)
		}
	}
	if got := impl.AsmWord(m, -1) + impl.AsmWord(m, len(m.Code)); got != "" {
		t.Fatalf("%s: a word that is none is %q", name, got)
	}
}

// wantRead tells that a text is read as it is a second time, and that it is the text of what is read. It tells whether there is an image.
func wantRead(t *testing.T, name string, s string) bool {
	t.Helper()
	got, line := impl.ReadAsm(s)
	want, right := readAgain(s)
	if line != right || !impl.SameImage(got, want) {
		t.Fatalf("%s:\n%.800q\nis read as %.300s, %d; want %.300s, %d", name, s, plain(got), line, plain(want), right)
	}
	if line == 0 && impl.Asm(got) != s {
		t.Fatalf("%s:\n%.800q\nis read as the image of\n%.800q", name, s, impl.Asm(got))
	}
	return line == 0
}

func TestMadeImagesComeBackFromTheirText(t *testing.T) {
	t.Parallel()
	ops := map[int]int{}
	for seed := range int64(seeds) {
		m, _, _ := madeImage(seed)
		wantSameText(t, fmt.Sprint("seed ", seed), m)
		wantSameText(t, fmt.Sprint("Peep of seed ", seed), impl.Peep(m))
		for _, w := range m.Code {
			ops[w.Op]++
		}
	}
	for op := range opWords {
		if ops[op] < seeds/3 {
			t.Errorf("%s came about only %d times", opWords[op], ops[op])
		}
	}
	// Limits that are met: most words, regions, slots, and a graph that is as great as can be.
	wantSameText(t, "most words", impl.Image{Sizes: []int{16, 16, 16, 16}, Params: 6, Slots: impl.MaxSlots, Code: manyWords(6000)})
	wantSameText(t, "most steps", impl.Code(mostSteps()))
	wantSameText(t, "no slot", impl.Image{Sizes: []int{16}, Code: manyWords(1)})
	wantSameText(t, "slots as parameters", impl.Image{Sizes: []int{16}, Params: 6, Slots: 6, Code: manyWords(2)})
	wantSameText(t, "each Op", wholeImage())
}

// wantSameTexts tells of each code of a graph that it comes back; how many words that are.
func wantSameTexts(t *testing.T, name string, g impl.Graph) int {
	t.Helper()
	words := 0
	for _, m := range []impl.Image{impl.Code(g), impl.CodeWith(g, impl.Colors(g, 12)), impl.CodeWith(g, impl.Colors(g, 2))} {
		wantSameText(t, name, m)
		wantSameText(t, "Peep of "+name, impl.Peep(m))
		words += len(m.Code)
	}
	return words
}

func TestCodeComesBackFromItsText(t *testing.T) {
	t.Parallel()
	words := 0
	for seed := range int64(seeds / 150) {
		for _, text := range []string{factProgram(seed), memoryProgram(seed)} {
			g := impl.Lower(parsed(t, text))
			if !impl.GraphOk(g) {
				continue
			}
			for name, h := range changedGraphs(g) {
				words += wantSameTexts(t, name+" of "+text, h)
			}
		}
	}
	for kind, make := range []func(seed int64) (impl.Graph, []int, []int){colorGraph, valueGraph, factGraph, memoryGraph, madeGraph} {
		for seed := range int64(seeds / 150) {
			g, _, _ := make(seed)
			words += wantSameTexts(t, fmt.Sprint("kind ", kind, " seed ", seed), g)
		}
	}
	if words < 40*seeds {
		t.Errorf("only %d words", words)
	}
}

// changedTexts tells s with one byte changed, left out and put in, for each place and each of these bytes.
func changedTexts(s string, bytes string, yield func(text string)) {
	for at := range len(s) + 1 {
		if at < len(s) {
			yield(s[:at] + s[at+1:])
		}
		for i := range len(bytes) {
			yield(s[:at] + bytes[i:i+1] + s[at:])
			if at < len(s) {
				yield(s[:at] + bytes[i:i+1] + s[at+1:])
			}
		}
	}
}

func everyByte() string {
	list := make([]byte, 256)
	for b := range list {
		list[b] = byte(b)
	}
	return string(list)
}

func TestTextsWithOneByteChanged(t *testing.T) {
	t.Parallel()
	const some = "019- \n\trsmwalujxzdtiopnv+*&=<\x00\xff"
	read, refused := 0, 0
	try := func(name string, s string, bytes string) {
		changedTexts(s, bytes, func(text string) {
			if wantRead(t, name, text) {
				read++
			} else {
				refused++
			}
		})
	}
	try("each Op", impl.Asm(wholeImage()), everyByte())
	least := impl.Image{Sizes: []int{1}, Code: []impl.Word{{Op: impl.OpJmp}}}
	try("the least image", impl.Asm(least), everyByte())
	for seed := range int64(seeds / 200) {
		m, _, _ := madeImage(seed)
		try(fmt.Sprint("seed ", seed), impl.Asm(m), some)
	}
	if read < seeds || refused < 30*seeds {
		t.Errorf("only %d are read, %d are not", read, refused)
	}
}

func TestTextsWithLinesChanged(t *testing.T) {
	t.Parallel()
	r := rand.New(rand.NewSource(17))
	read, refused := 0, 0
	for seed := range int64(seeds) {
		m, _, _ := madeImage(seed)
		n, _, _ := madeImage(seed + seeds)
		lines, others := strings.SplitAfter(impl.Asm(m), "\n"), strings.SplitAfter(impl.Asm(n), "\n")
		for range 1 + r.Intn(3) {
			at, to := r.Intn(len(lines)), r.Intn(len(lines))
			switch r.Intn(5) {
			case 0:
				lines[at], lines[to] = lines[to], lines[at]
			case 1:
				lines[at] = lines[to]
			case 2:
				lines[at] = ""
			case 3:
				lines[at] += others[r.Intn(len(others))]
			case 4:
				lines[at] = others[r.Intn(len(others))]
			}
		}
		if wantRead(t, fmt.Sprint("seed ", seed), strings.Join(lines, "")) {
			read++
		} else {
			refused++
		}
	}
	if read < seeds/10 || refused < seeds/10 {
		t.Errorf("only %d are read, %d are not", read, refused)
	}
}

func TestTextsOfFewParts(t *testing.T) {
	t.Parallel()
	parts := strings.Split("mem|params|slots|ret|li|jmp|r0|r1|w0|0|1|-1| |\n|x", "|")
	r := rand.New(rand.NewSource(18))
	read := 0
	for range 20 * seeds {
		s := ""
		if r.Intn(2) > 0 {
			s = "mem 1\nparams 0\nslots 1\nret r0\n"
		}
		for range r.Intn(12) {
			s += parts[r.Intn(len(parts))]
		}
		if wantRead(t, "parts", s) {
			read++
		}
	}
	if read < seeds/2 {
		t.Errorf("only %d are read", read)
	}
}

// wantNum tells that a text is read as it is a second time, and whether it is a number.
func wantNum(t *testing.T, s string) bool {
	t.Helper()
	n, ok := impl.ReadNum(s)
	if want, is := numAgain(s); n != want || ok != is {
		t.Fatalf("ReadNum(%.60q) = %d, %t; want %d, %t", s, n, ok, want, is)
	}
	if ok && impl.DecText(n) != s {
		t.Fatalf("ReadNum(%q) = %d, whose text is another one", s, n)
	}
	return ok
}

func TestNumbersOf64BitsComeBackFromTheirText(t *testing.T) {
	t.Parallel()
	r := rand.New(rand.NewSource(19))
	numbers := []int{math.MinInt, math.MinInt + 1, math.MaxInt, math.MaxInt - 1, 0}
	for power, n := 1, 1; power <= 18; power++ {
		n *= 10
		numbers = append(numbers, n-1, n, n+1, 1-n, -n, -1-n)
	}
	for bit := range 63 {
		numbers = append(numbers, 1<<bit, -1<<bit, 1<<bit-1, r.Intn(2<<bit-1)+1, -r.Intn(2<<bit-1)-1)
	}
	numbers = append(numbers, someNumbers(r, 100)...)
	read, refused := 0, 0
	for _, n := range numbers {
		if got, ok := impl.ReadNum(impl.DecText(n)); got != n || !ok {
			t.Fatalf("%d comes back as %d, %t", n, got, ok)
		}
		changedTexts(impl.DecText(n), "0123456789-+ \n\t_xeE.aN\x00\xff", func(text string) {
			if wantNum(t, text) {
				read++
			} else {
				refused++
			}
		})
	}
	if read < 10*seeds || refused < 10*seeds {
		t.Errorf("only %d are read, %d are not", read, refused)
	}
}
