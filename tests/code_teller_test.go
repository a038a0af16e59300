package tests

import (
	"fmt"
	"math/rand"
	"regexp"
	"slices"
	"strconv"
	"strings"

	"loop.example/g00385/impl"
)

// opWords are the names of the Ops, in order; wordFields tells of each what its R, A, B and N can be: a register, a slot, a sign, a region, a word, any number, or only 0.
var (
	opWords    = strings.Fields("li ld sd alu lx sx in out jmp jz ret mv")
	wordFields = strings.Fields("r00n r00s r00s rrr+ rr0m rr0m r000 r000 000w r00w r000 rr00")
)

// wordRight tells whether a word is one of an image, told a second time.
func wordRight(m impl.Image, w impl.Word) bool {
	if !slices.Contains(upTo(12), w.Op) {
		return false
	}
	most := map[byte]int{'r': 16, 's': m.Slots, '+': 6, 'm': len(m.Sizes), 'w': len(m.Code), '0': 1}
	for i, n := range []int{w.R, w.A, w.B, w.N} {
		kind := wordFields[w.Op][i]
		if kind != 'n' && (n < 0 || n >= most[kind]) {
			return false
		}
	}
	return true
}

// wordsText is the text of words of any Op that there is, without asking whether the image is right.
func wordsText(words []impl.Word) string {
	s := strings.Builder{}
	for i, w := range words {
		fmt.Fprintf(&s, "%d: %s %d %d %d %d\n", i, opWords[w.Op], w.R, w.A, w.B, w.N)
	}
	return s.String()
}

// A sheet is code as lines; a line that ends with a colon is a name of the line behind it, and jumps go to names.
type sheet struct {
	lines  []string
	colors []int
}

// wordForms tells for each form of a line of a graph's text what is written for it: + is a slot that is read, ! one that is written, each behind its register.
var wordForms = []struct {
	line  *regexp.Regexp
	words string
}{
	{regexp.MustCompile(`^(b\d+:)$`), "$1"},
	{regexp.MustCompile(`^s(\d+) = (-?\d+)$`), "li 1 0 0 $2;!1 $1"},
	{regexp.MustCompile(`^s(\d+) = s(\d+)$`), "+1 $2;!1 $1"},
	{regexp.MustCompile(`^s(\d+) = s(\d+) (\S+) s(\d+)$`), "+1 $2;+2 $4;alu 3 1 2 $3;!3 $1"},
	{regexp.MustCompile(`^s(\d+) = r(\d+)\[s(\d+)\]$`), "+1 $3;lx 3 1 0 $2;!3 $1"},
	{regexp.MustCompile(`^s(\d+) = r(\d+)\[s(\d+)\+s(\d+)\]$`), "+1 $4;+2 $3;alu 1 1 2 +;lx 3 1 0 $2;!3 $1"},
	{regexp.MustCompile(`^r(\d+)\[s(\d+)\] = s(\d+)$`), "+1 $2;+3 $3;sx 3 1 0 $1"},
	{regexp.MustCompile(`^r(\d+)\[s(\d+)\+s(\d+)\] = s(\d+)$`), "+1 $3;+2 $2;alu 1 1 2 +;+3 $4;sx 3 1 0 $1"},
	{regexp.MustCompile(`^s(\d+) = get$`), "in 1 0 0 0;!1 $1"},
	{regexp.MustCompile(`^put s(\d+)$`), "+1 $1;out 1 0 0 0"},
	{regexp.MustCompile(`^go (b\d+)$`), "jmp 0 0 0 $1:"},
	{regexp.MustCompile(`^if s(\d+) (b\d+) (b\d+)$`), "+1 $1;jz 1 0 0 $3:;jmp 0 0 0 $2:"},
	{regexp.MustCompile(`^ret s(\d+)$`), "+1 $1;ret 1 0 0 0"},
}

// codeToldAgain is the text of the code of a graph that is GraphOk with colors that are ColorsOk, told a second time, from the graph's text (and from LiveIn of block 0).
func codeToldAgain(g impl.Graph, colors []int) string {
	s := sheet{colors: colors}
	for _, slot := range impl.LiveIn(g, 0) {
		if colors[slot] >= 0 {
			s.lines = append(s.lines, fmt.Sprintf("ld %d 0 0 %d", colors[slot]+4, slot))
		}
	}
	for _, line := range strings.Split(strings.TrimSuffix(graphText(g), "\n"), "\n") {
		s.write(line)
	}
	return s.text()
}

func (s *sheet) write(line string) {
	for _, form := range wordForms {
		if !form.line.MatchString(line) {
			continue
		}
		for _, word := range strings.Split(form.line.ReplaceAllString(line, form.words), ";") {
			s.lines = append(s.lines, s.placed(word))
		}
		return
	}
	panic("no form: " + line)
}

// placed tells where a slot stands that is read or written.
func (s *sheet) placed(word string) string {
	var register, slot int
	n, _ := fmt.Sscanf(word[min(1, len(word)):], "%d %d", &register, &slot)
	switch {
	case n != 2 || word[0] != '+' && word[0] != '!':
		return word
	case s.colors[slot] < 0:
		return fmt.Sprint(map[byte]string{'+': "ld ", '!': "sd "}[word[0]], register, " 0 0 ", slot)
	case word[0] == '+':
		return fmt.Sprint("mv ", register, " ", s.colors[slot]+4, " 0 0")
	}
	return fmt.Sprint("mv ", s.colors[slot]+4, " ", register, " 0 0")
}

// text numbers the lines, without jumps to the block whose name is on the next line, and tells names and signs as numbers.
func (s *sheet) text() string {
	kept := []string{}
	for i, line := range s.lines {
		if name, goes := strings.CutPrefix(line, "jmp 0 0 0 "); !goes || i+1 == len(s.lines) || s.lines[i+1] != name {
			kept = append(kept, line)
		}
	}
	return numberedText(kept)
}

// numberedText tells lines that are no names with their numbers, and the names and signs that they end with as numbers.
func numberedText(lines []string) string {
	words, names := numbered(lines)
	for i, sign := range strings.Fields("+ - * & == <") {
		names[sign] = i
	}
	text := strings.Builder{}
	for i, line := range words {
		fields := strings.Fields(line)
		if number, there := names[fields[4]]; there {
			fields[4] = fmt.Sprint(number)
		}
		fmt.Fprintf(&text, "%d: %s\n", i, strings.Join(fields, " "))
	}
	return text.String()
}

// numbered tells lines without those that are names, and the number of the line behind each name.
func numbered(lines []string) ([]string, map[string]int) {
	words, names := []string{}, map[string]int{}
	for _, line := range lines {
		if strings.HasSuffix(line, ":") && !strings.Contains(line, " ") {
			names[line] = len(words)
			continue
		}
		words = append(words, line)
	}
	return words, names
}

// peepToldAgain is the text of Peep of an image that is ImageOk, told a second time: a name stands on a line of its own ahead of each word that is gone to, and of two lines in a row the second one may go.
func peepToldAgain(m impl.Image) string {
	s := sheet{}
	aims := aimsOf(m)
	for i, w := range m.Code {
		if len(aims) > 0 && aims[0] == i {
			aims = aims[1:]
			s.lines = append(s.lines, fmt.Sprint("w", i, ":"))
		}
		last := fmt.Sprint(w.N)
		if strings.HasPrefix(opWords[w.Op], "j") {
			last = fmt.Sprint("w", w.N, ":")
		}
		s.lines = append(s.lines, fmt.Sprint(opWords[w.Op], " ", w.R, " ", w.A, " ", w.B, " ", last))
	}
	kept := []string{}
	for i, line := range s.lines {
		if slot, loads := strings.CutPrefix(line, "ld "); !loads || i == 0 || s.lines[i-1] != "sd "+slot {
			kept = append(kept, line)
		}
	}
	// Where a jump goes to the next word, it stays.
	return numberedText(kept)
}

// aimsOf is Aims of an image that is ImageOk, told a second time.
func aimsOf(m impl.Image) []int {
	aims := map[int]bool{}
	for _, w := range m.Code {
		aims[w.N] = aims[w.N] || strings.HasPrefix(opWords[w.Op], "j")
	}
	return slices.DeleteFunc(upTo(len(m.Code)), func(at int) bool { return !aims[at] })
}

// deadOf is Dead of an image that is ImageOk, told a second time: until no word more is come to.
func deadOf(m impl.Image) []int {
	came := make([]bool, len(m.Code)+1)
	came[0] = true
	for more := true; more; {
		more = false
		for at, w := range m.Code {
			next := map[string][]int{"jmp": {w.N}, "jz": {w.N, at + 1}, "ret": {}}
			list, jumps := next[opWords[w.Op]]
			if !jumps {
				list = []int{at + 1}
			}
			for _, to := range list {
				if came[at] && !came[to] {
					came[to], more = true, true
				}
			}
		}
	}
	list := []int{}
	for at := range m.Code {
		if !came[at] {
			list = append(list, at)
		}
	}
	return list
}

// A runner does the lines of an image's text; what has a name (a register, a slot, a place) has a value.
type runner struct {
	tale
	sizes  []int
	lines  [][]string
	at     int
	values map[string]int
	input  []int
	over   bool
}

// newRunner is of an image that is ImageOk.
func newRunner(m impl.Image, args []int, input []int) *runner {
	r := runner{sizes: m.Sizes, values: map[string]int{}, input: input}
	for i, n := range args {
		r.values[fmt.Sprint("s", i)] = n
	}
	for _, line := range strings.Split(wordsText(m.Code), "\n") {
		r.lines = append(r.lines, strings.Fields(line))
	}
	return &r
}

// ranCode is what an image that is ImageOk does, of at most that many takes of fuel.
func ranCode(m impl.Image, args []int, input []int, most int) tale {
	r := newRunner(m, args, input)
	for !r.over {
		r.ahead = append(r.ahead, len(r.out))
		if len(r.ahead) > most {
			r.stop(impl.End{Code: impl.EndFuel})
			break
		}
		r.at = r.line(r.lines[r.at])
	}
	return r.tale
}

func (r *runner) stop(e impl.End) { r.end, r.over = e, true }

// line tells the one that comes next: behind the last one of a run that one itself.
func (r *runner) line(words []string) int {
	name, to, a, b := words[1], "r"+words[2], "r"+words[3], "r"+words[4]
	n, _ := strconv.Atoi(words[5])
	slot, cell := "s"+words[5], fmt.Sprint("m", n, ".", r.values[a])
	if name == "lx" || name == "sx" {
		if !slices.Contains(upTo(r.sizes[n]), r.values[a]) {
			r.stop(impl.End{Code: impl.EndTrap})
			return r.at
		}
	}
	switch name {
	case "li":
		r.values[to] = n
	case "ld":
		r.values[to] = r.values[slot]
	case "sd":
		r.values[slot] = r.values[to]
	case "alu":
		r.values[to] = around(strings.Fields("+ - * & == <")[n], r.values[a], r.values[b])
	case "lx":
		r.values[to] = r.values[cell]
	case "sx":
		r.values[cell] = r.values[to]
	case "mv":
		r.values[to] = r.values[a]
	case "in":
		r.values[to] = slices.Concat(r.input, []int{-1})[0]
		r.input = r.input[min(1, len(r.input)):]
	case "out":
		r.out = append(r.out, r.values[to])
	case "ret":
		r.stop(impl.End{Code: impl.EndDone, Val: r.values[to]})
		return r.at
	}
	if name == "jmp" || name == "jz" && r.values[to] == 0 {
		return n
	}
	return r.at + 1
}

// madeImage tells an image that no graph may have, and what it is begun with; a seed has always the same. Many of its words are loads of what was just stored.
func madeImage(seed int64) (impl.Image, []int, []int) {
	r := rand.New(rand.NewSource(seed))
	m := impl.Image{Params: r.Intn(3)}
	m.Slots = m.Params + 1 + r.Intn(3)
	for range 1 + r.Intn(4) {
		m.Sizes = append(m.Sizes, 1+r.Intn(impl.MaxSize))
	}
	m.Code = make([]impl.Word, 1+r.Intn(30))
	for i := range m.Code {
		m.Code[i] = madeWord(r, m, []int{0, 1, 1, 1, 2, 2, 2, 2, 3, 3, 4, 5, 6, 7, 8, 9, 10, 11}[r.Intn(18)])
		if i > 0 && m.Code[i-1].Op == impl.OpSd && r.Intn(3) > 0 {
			m.Code[i] = m.Code[i-1]
			m.Code[i].Op = impl.OpLd
		}
	}
	m.Code[len(m.Code)-1] = madeWord(r, m, []int{impl.OpRet, impl.OpJmp}[r.Intn(2)])
	return m, someNumbers(r, m.Params), someNumbers(r, r.Intn(8))
}

func madeWord(r *rand.Rand, m impl.Image, op int) impl.Word {
	w := impl.Word{Op: op}
	for i, field := range []*int{&w.R, &w.A, &w.B, &w.N} {
		switch wordFields[op][i] {
		case 'r':
			*field = []int{0, 1, 1, 2, 2, 3, 15}[r.Intn(7)]
		case 's':
			*field = r.Intn(m.Slots)
		case '+':
			*field = r.Intn(6)
		case 'm':
			*field = r.Intn(len(m.Sizes))
		case 'w':
			*field = r.Intn(len(m.Code))
		case 'n':
			*field = someNumber(r)
		}
	}
	return w
}
