package tests

import (
	"fmt"
	"math/rand"
	"regexp"
	"slices"
	"strconv"
	"strings"

	"loop.example/g00385/impl"
)

// levelAgain is Level, told a second time: change by change.
func levelAgain(p impl.Program, level int) impl.Graph {
	g := impl.Lower(p)
	if level < 0 || level > 3 {
		return impl.Graph{}
	}
	if level == 0 || !impl.GraphOk(g) {
		return g
	}
	if level == 3 {
		g = impl.Twice(impl.FoldAll(g))
	}
	g = impl.Fold(g)
	if level > 1 {
		g = impl.Fold(impl.DeadStores(impl.Forward(g)))
	}
	g = impl.Clean(impl.Copies(g))
	if level > 1 {
		g = impl.Trim(g)
	}
	return g
}

// buildAgain is Build, told a second time.
func buildAgain(s string, level int) (impl.Image, int) {
	p, line := impl.Parse(s)
	if line != 0 {
		return impl.Image{}, line
	}
	g := levelAgain(p, level)
	m := impl.Code(g)
	if level == 3 {
		m = impl.CodeWith(g, impl.Colors(g, 12))
	}
	if !impl.ImageOk(m) {
		return impl.Image{}, -1
	}
	return impl.Peep(m), 0
}

const deskNumber = `(?: (?:0|-?[1-9][0-9]{0,5}))`

// deskForms has a pattern for each way to write a command: its name, its level, and what stands behind, ahead of the slash and behind it.
var deskForms = []*regexp.Regexp{
	regexp.MustCompile(`\A(mean)()(` + deskNumber + `*) /(` + deskNumber + `*)\z`),
	regexp.MustCompile(`\A(walk|exec|cost) ([0-3])(` + deskNumber + `*) /(` + deskNumber + `*)\z`),
	regexp.MustCompile(`\A(show)\z`),
	regexp.MustCompile(`\A(graph|code|asm|count) ([0-3])\z`),
	regexp.MustCompile(`\A(places|facts|rules|colors) ([0-3])(` + deskNumber + `)\z`),
}

// deskAgain is Desk, told a second time: the text is cut at its first middle, and each command is taken by a pattern.
func deskAgain(text string) string {
	if len(text) > 8000 || strings.Count(text, "\n") > 200 || text != strings.TrimSuffix(text, "\n")+"\n" && text != "" {
		return "long\n"
	}
	program, commands, found := strings.Cut("\n"+text, "\n--\n")
	if found {
		program += "\n"
	}
	s := strings.TrimPrefix(program, "\n")
	told := "ok\n"
	_, wrong := impl.Parse(s)
	if wrong != 0 {
		told = fmt.Sprintf("line %d\n", wrong)
	}
	for commands != "" {
		line, rest, _ := strings.Cut(commands, "\n")
		commands = rest
		if wrong != 0 {
			told += "none\n"
		} else {
			told += commandAgain(s, line) + "\n"
		}
	}
	return told
}

func commandAgain(s string, line string) string {
	for _, form := range deskForms {
		if found := form.FindStringSubmatch(line); found != nil {
			return answerAgain(s, append(found, "", "", "")[1:5])
		}
	}
	return "what"
}

func intsOf(text string) []int {
	list := []int{}
	for _, part := range strings.Fields(text) {
		n, _ := strconv.Atoi(part)
		list = append(list, n)
	}
	return list
}

// answerAgain tells what a command is answered by: its name, its level, and the numbers ahead of the slash and behind it.
func answerAgain(s string, parts []string) string {
	p, _ := impl.Parse(s)
	level, _ := strconv.Atoi(parts[1])
	g := levelAgain(p, level)
	m, _ := buildAgain(s, level)
	args, input := intsOf(parts[2]), intsOf(parts[3])
	at := append(intsOf(parts[2]), 0)[0]
	lines := func(text string) string { return orDash(strings.Join(strings.Split(text, "\n"), ";")) }
	switch parts[0] {
	case "mean":
		return impl.EndText(impl.Mean(p, args, input, 1000))
	case "walk":
		return impl.EndText(impl.Walk(g, args, input, 10000))
	case "exec":
		return impl.EndText(impl.Exec(m, args, input, 50000))
	case "cost":
		return fmt.Sprint(impl.Cost(m, args, input))
	case "show":
		return lines(impl.ShowProgram(p))
	case "graph":
		return lines(impl.ShowGraph(g))
	case "code":
		return lines(impl.ShowCode(m))
	case "asm":
		return lines(impl.Asm(m))
	case "count":
		return fmt.Sprint(impl.Weight(g), " ", impl.Loads(g), " ", impl.Stores(g), " ", len(m.Code))
	case "places":
		texts := []string{}
		for _, place := range impl.Places(g, at) {
			texts = append(texts, impl.PlaceText(place))
		}
		return orDash(strings.Join(texts, " "))
	case "facts":
		if facts := impl.Facts(g); 0 <= at && at < len(facts) {
			return impl.FactText(facts[at])
		}
	case "rules":
		if rules := impl.Rules(g); 0 <= at && at < len(rules) {
			return orDash(numbersText(rules[at]))
		}
	case "colors":
		return orDash(numbersText(impl.Colors(g, at)))
	}
	return "-"
}

func orDash(text string) string {
	if text == "" {
		return "-"
	}
	return text
}

// madeText tells the text of a program that is made: in one line, or with each word on a line of its own, or with newlines behind some.
func madeText(seed int64) string {
	r := rand.New(rand.NewSource(seed))
	switch r.Intn(6) {
	case 0:
		return factProgram(seed) + "\n"
	case 1:
		return memoryProgram(seed) + "\n"
	}
	words, _ := made(seed)
	below := 1 + r.Intn(6)
	for i, word := range words {
		// The size of a region stays; other numbers become small enough to be places.
		if n, err := strconv.Atoi(word); err == nil && words[max(0, i-3)] != "mem" && r.Intn(8) > 0 {
			words[i] = strconv.Itoa(n % below)
		}
	}
	text, lines := "", 0
	for _, word := range words {
		if lines < 60 && (word == "}" || r.Intn(12) == 0) {
			text += "\n"
			lines++
		}
		text += word + " "
	}
	return text + "\n"
}

// commandForms has each command, and what stands behind it: L for a level, N for a number, R for a run's numbers.
var commandForms = strings.Split("mean R|walk L R|exec L R|cost L R|show|graph L|code L|asm L|count L|places L N|facts L N|rules L N|colors L N", "|")

// madeCommand tells a command, or now and then a line that is none.
func madeCommand(r *rand.Rand) string {
	pick := func(list ...string) string { return list[r.Intn(len(list))] }
	number := func() string {
		return pick("0", "0", "1", "1", "2", "3", "5", "7", "12", "13", "-1", "4", "100", "999999", "-999999")
	}
	numbers := func(n int) string {
		text := ""
		for range n {
			text += number() + " "
		}
		return text
	}
	line := commandForms[r.Intn(len(commandForms))]
	line = strings.Replace(line, "L", pick("0", "1", "2", "3"), 1)
	line = strings.Replace(line, "N", number(), 1)
	line = strings.Replace(line, "R", numbers(r.Intn(4))+strings.TrimSuffix("/ "+numbers(r.Intn(6)), " "), 1)
	if r.Intn(6) > 0 {
		return line
	}
	return damaged(r, line)
}

// damaged changes one part of a line, or one byte.
func damaged(r *rand.Rand, line string) string {
	parts := strings.Split(line, " ")
	at := r.Intn(len(parts))
	other := []string{"/", "", "0", "4", "-1", "01", "1000000", "-0", "x", "mean", "walk", "show", "graph", "--", "+1", "\r", "1.", "3"}[r.Intn(18)]
	switch r.Intn(5) {
	case 0:
		parts = slices.Delete(parts, at, at+1)
	case 1:
		parts = slices.Insert(parts, at, other)
	case 2:
		parts[at] = other
	case 3:
		parts = append(parts, other)
	case 4:
		at = r.Intn(len(line))
		return line[:at] + string([]byte{byte(r.Intn(128))}) + line[at+1:]
	}
	return strings.Join(parts, " ")
}

// madeScript tells a script of a program and some commands; a byte of a line that was changed can cut it in two.
func madeScript(seed int64) string {
	r := rand.New(rand.NewSource(-seed))
	text := madeText(seed)
	if r.Intn(10) == 0 {
		at := r.Intn(len(text))
		text = text[:at] + "}" + text[at:]
	}
	text += "--\n"
	for range r.Intn(20) {
		text += madeCommand(r) + "\n"
	}
	return text
}
