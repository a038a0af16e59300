package tests

import (
	"fmt"
	"math/big"
	"regexp"
	"slices"
	"strings"

	"loop.example/g00385/impl"
)

// asmForms are the lines of the twelve words, in the order of the Ops, and the fields whose numbers stand in each.
var asmForms = []struct{ line, fields string }{
	{"li r%d %d", "RN"}, {"ld r%d s%d", "RN"}, {"sd r%d s%d", "RN"}, {"alu r%d r%d %s r%d", "RANB"}, {"lx r%d m%d r%d", "RNA"}, {"sx r%d m%d r%d", "RNA"},
	{"in r%d", "R"}, {"out r%d", "R"}, {"jmp w%d", "N"}, {"jz r%d w%d", "RN"}, {"ret r%d", "R"}, {"mv r%d r%d", "RA"},
}

var asmSigns = strings.Fields("+ - * & == <")

// fieldOf is the field of a word that a letter names.
func fieldOf(w *impl.Word, letter byte) *int {
	return map[byte]*int{'R': &w.R, 'A': &w.A, 'B': &w.B, 'N': &w.N}[letter]
}

// lineAgain is the line of a word of an Op, and of a sign, that there is, told a second time.
func lineAgain(w impl.Word) string {
	form := asmForms[w.Op]
	list := []any{}
	for i := range form.fields {
		list = append(list, *fieldOf(&w, form.fields[i]))
	}
	if w.Op == impl.OpAlu {
		list[2] = asmSigns[w.N]
	}
	return fmt.Sprintf(form.line, list...)
}

// asmAgain is Asm, told a second time, also of an image that is not ImageOk.
func asmAgain(m impl.Image) string {
	lines := []string{strings.TrimSuffix("mem "+numbersText(m.Sizes), " "), fmt.Sprint("params ", m.Params), fmt.Sprint("slots ", m.Slots)}
	for _, w := range m.Code {
		lines = append(lines, lineAgain(w))
	}
	return strings.Join(lines, "\n") + "\n"
}

const (
	numberPattern = `(0|-?[1-9][0-9]*)`
	signPattern   = `(==|[-+*&<])`
)

var (
	asmHeads = []*regexp.Regexp{asmLine("mem( .*)?"), asmLine("params %d"), asmLine("slots %d")}
	asmWords = map[string]*regexp.Regexp{}
)

func init() {
	for op, form := range asmForms {
		asmWords[opWords[op]] = asmLine(form.line)
	}
}

// asmLine is the pattern of a line with its newline.
func asmLine(form string) *regexp.Regexp {
	return regexp.MustCompile(`\A(?s:` + strings.NewReplacer("%d", numberPattern, "%s", signPattern).Replace(form) + `)\n\z`)
}

// numAgain is ReadNum, told a second time.
func numAgain(s string) (int, bool) {
	n, ok := new(big.Int).SetString(s, 10)
	if !ok || n.String() != s || !n.IsInt64() {
		return 0, false
	}
	return int(n.Int64()), true
}

// numsAgain tells the numbers of all these texts; nothing and false where one is none.
func numsAgain(texts []string) ([]int, bool) {
	list := []int{}
	for _, text := range texts {
		n, ok := numAgain(text)
		if !ok {
			return nil, false
		}
		list = append(list, n)
	}
	return list, true
}

// readAgain is ReadAsm, told a second time: line by line, each by a pattern.
func readAgain(s string) (impl.Image, int) {
	lines := strings.SplitAfter(s, "\n")
	if lines[len(lines)-1] == "" {
		lines = lines[:len(lines)-1]
	}
	m := impl.Image{}
	for at := range max(3, len(lines)) {
		if at >= len(lines) || !takeLine(&m, at, lines[at]) {
			return impl.Image{}, at + 1
		}
	}
	if !imageRight(m) {
		return impl.Image{}, len(lines) + 1
	}
	return m, 0
}

// takeLine puts what a line tells into m, and tells whether it is one.
func takeLine(m *impl.Image, at int, line string) bool {
	if at > 2 {
		return takeWord(m, line)
	}
	found := asmHeads[at].FindStringSubmatch(line)
	if found == nil {
		return false
	}
	// Behind mem alone stands no blank, so there is no number.
	if at == 0 && found[1] == "" {
		return true
	}
	list, ok := numsAgain(strings.Split(strings.TrimPrefix(found[1], " "), " "))
	if !ok {
		return false
	}
	switch at {
	case 0:
		m.Sizes = list
	case 1:
		m.Params = list[0]
	case 2:
		m.Slots = list[0]
	}
	return true
}

func takeWord(m *impl.Image, line string) bool {
	name, _, _ := strings.Cut(line, " ")
	pattern := asmWords[name]
	if pattern == nil {
		return false
	}
	found := pattern.FindStringSubmatch(line)
	if found == nil {
		return false
	}
	w := impl.Word{Op: slices.Index(opWords, name)}
	for i, text := range found[1:] {
		field := fieldOf(&w, asmForms[w.Op].fields[i])
		if sign := slices.Index(asmSigns, text); sign >= 0 {
			*field = sign
			continue
		}
		n, ok := numAgain(text)
		if !ok {
			return false
		}
		*field = n
	}
	m.Code = append(m.Code, w)
	return true
}

// imageRight is ImageOk, told a second time.
func imageRight(m impl.Image) bool {
	sizes := len(m.Sizes) >= 1 && len(m.Sizes) <= 4 && slices.Min(m.Sizes) >= 1 && slices.Max(m.Sizes) <= 16
	if !sizes || m.Params < 0 || m.Params > 6 || m.Slots < m.Params || m.Slots > impl.MaxSlots || len(m.Code) < 1 || len(m.Code) > 6000 {
		return false
	}
	for _, w := range m.Code {
		if !wordRight(m, w) {
			return false
		}
	}
	return slices.Contains([]int{impl.OpJmp, impl.OpRet}, m.Code[len(m.Code)-1].Op)
}
