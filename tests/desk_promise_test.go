package tests

import (
	"fmt"
	"math/rand"
	"strings"
	"testing"

	"loop.example/g00385/impl"
)

// wantSameBuild tells that Build of a text is as it is a second time, and tells it.
func wantSameBuild(t *testing.T, s string, level int) (impl.Image, int) {
	t.Helper()
	m, line := impl.Build(s, level)
	if want, wrong := buildAgain(s, level); line != wrong || !impl.SameImage(m, want) {
		t.Fatalf("Build(%q, %d) is %s, %d; want %s, %d", s, level, plain(m), line, plain(want), wrong)
	}
	if (line == 0) != impl.ImageOk(m) || line != 0 && !impl.SameImage(m, impl.Image{}) {
		t.Fatalf("Build(%q, %d) is %s, %d", s, level, plain(m), line)
	}
	return m, line
}

// builds tells the code of each level of a text that has one, and that Level is as it is a second time.
func builds(t *testing.T, s string) map[int]impl.Image {
	t.Helper()
	p := parsed(t, s)
	images := map[int]impl.Image{}
	for level := range 4 {
		m, line := wantSameBuild(t, s, level)
		if g := impl.Level(p, level); !impl.SameGraph(g, levelAgain(p, level)) || impl.GraphOk(g) != (line == 0) {
			t.Fatalf("level %d of %q is\n%s, and its code %d", level, s, graphText(g), line)
		}
		if line == 0 {
			images[level] = m
		}
	}
	return images
}

// wantRunsMean tells that code puts out and ends as a program's text means, where that ends, and how that ends.
func wantRunsMean(t *testing.T, s string, images map[int]impl.Image, args []int, input []int) int {
	t.Helper()
	want := impl.Mean(parsed(t, s), args, input, 300)
	for level, m := range images {
		got := impl.Exec(m, args, input, impl.MaxFuel)
		same := impl.SameEnd(got, want)
		if want.Code == impl.EndFuel {
			same = impl.Prefix(want.Out, got.Out)
		}
		if !same {
			t.Fatalf("level %d of %q with %v / %v: %+v, but the text means %+v", level, s, args, input, got, want)
		}
		cost := impl.Cost(m, args, input)
		if (cost < 0) != (want.Code == impl.EndNone) || cost >= 0 && !impl.SameEnd(impl.Exec(m, args, input, cost), got) {
			t.Fatalf("level %d of %q with %v / %v does not end with its cost %d", level, s, args, input, cost)
		}
	}
	return want.Code
}

func TestTheCodeOfEachLevelDoesWhatTheTextMeans(t *testing.T) {
	t.Parallel()
	ends, built := map[int]int{}, 0
	for seed := range int64(seeds / 3) {
		s := madeText(seed)
		images := builds(t, s)
		built += len(images)
		params := parsed(t, s).Params
		r := rand.New(rand.NewSource(seed))
		for n := range 6 {
			args, input := someNumbers(r, params), someNumbers(r, r.Intn(8))
			if n > 2 {
				// Small numbers find their place more often.
				for i := range args {
					args[i] = r.Intn(4)
				}
			}
			ends[wantRunsMean(t, s, images, args, input)]++
		}
		for _, n := range []int{params + 1, params - 1, 0, 99} {
			if n >= 0 && n != params {
				ends[wantRunsMean(t, s, images, make([]int, n), nil)]++
			}
		}
		if code := wantRunsMean(t, s, images, make([]int, params), make([]int, 101)); code != impl.EndNone {
			t.Fatalf("%q with 101 numbers of input ends %d", s, code)
		}
		if code := wantRunsMean(t, s, images, make([]int, params), make([]int, 100)); code == impl.EndNone {
			t.Fatalf("%q with 100 numbers of input has no end", s)
		}
	}
	if ends[impl.EndDone] < seeds/3 || ends[impl.EndTrap] < seeds/10 || ends[impl.EndNone] < seeds/10 || ends[impl.EndFuel] < seeds/100 || built < seeds {
		t.Errorf("%d are built, ends %v", built, ends)
	}
}

// wantDesk tells that Desk of a text is as it is a second time, and tells its lines.
func wantDesk(t *testing.T, text string) []string {
	t.Helper()
	got := impl.Desk(text)
	if want := deskAgain(text); got != want {
		t.Fatalf("Desk(%q) is\n%swant\n%s", text, got, want)
	}
	lines := strings.Split(got, "\n")
	if lines[len(lines)-1] != "" {
		t.Fatalf("Desk(%q) is\n%swithout its last newline", text, got)
	}
	return lines[:len(lines)-1]
}

func TestWhatIsToldOfAScriptBeginsWithItsBeginning(t *testing.T) {
	t.Parallel()
	right, wrong, what := 0, 0, 0
	for seed := range int64(seeds / 6) {
		text := madeScript(seed)
		lines := wantDesk(t, text)
		if lines[0] == "long" {
			continue
		}
		behind := strings.Index("\n"+text, "\n--\n") + len("--\n")
		told := ""
		for n, line := range lines {
			told += line + "\n"
			if got := impl.Desk(text[:behind]); got != told {
				t.Fatalf("Desk(%q) is\n%sof all of it\n%s", text[:behind], got, strings.Join(lines, "\n"))
			}
			if n < len(lines)-1 {
				behind += strings.Index(text[behind:], "\n") + 1
			}
			if line == "what" {
				what++
			}
		}
		// One line of the program, and one of each command.
		if behind != len(text) {
			t.Fatalf("Desk(%q) has %d lines", text, len(lines))
		}
		if lines[0] == "ok" {
			right++
		} else {
			wrong++
		}
	}
	if right < seeds/10 || wrong < seeds/100 || what < seeds/10 {
		t.Errorf("%d programs are right, %d wrong, %d commands none", right, wrong, what)
	}
}

func TestRunsOfTheDeskEndAlike(t *testing.T) {
	t.Parallel()
	ends := map[string]int{}
	for seed := range int64(seeds / 15) {
		text := madeText(seed)
		p := parsed(t, text)
		r := rand.New(rand.NewSource(seed))
		script := text + "--\n"
		for range 4 {
			with := " /"
			for range p.Params {
				with = fmt.Sprint(" ", r.Intn(9)-2, with)
			}
			for range r.Intn(4) {
				with += fmt.Sprint(" ", r.Intn(9)-2)
			}
			script += "mean" + with + "\n"
			for level := range 4 {
				script += fmt.Sprint("walk ", level, with, "\nexec ", level, with, "\ncost ", level, with, "\n")
			}
		}
		lines := wantDesk(t, script)[1:]
		for ; len(lines) > 0; lines = lines[13:] {
			name, _, _ := strings.Cut(lines[0], " ")
			ends[name]++
			for at, line := range lines[1:13] {
				// Where the text does not end with its fuel, the code can, which has more.
				if at%3 < 2 && line != lines[0] && name != "fuel" && line != "none" {
					t.Fatalf("%swhere the text means %s, level %d tells %s", script, lines[0], at/3, line)
				}
			}
		}
	}
	if ends["done"] < seeds/10 || ends["trap"] < seeds/30 || ends["fuel"] < seeds/300 {
		t.Errorf("ends %v", ends)
	}
}

func TestDeskOfChangedScripts(t *testing.T) {
	t.Parallel()
	script := "mem a[3]; mem b[2];\nfn (x) {\nlet z = get;\nwhile z {\na[z] = x;\nz = z - 1;\n}\nput a[1];\n}\n--\nmean 1 / 2\nwalk 2 0 / 1\nexec 3 / 1\ncost 1 5 /\nshow\ngraph 0\ncode 3\nasm 2\ncount 1\nplaces 2 2\nfacts 3 0\nrules 0 1\ncolors 1 12\n"
	told := map[string]int{}
	changedTexts(script, "\n -/14}", func(text string) {
		for _, line := range wantDesk(t, text)[:1] {
			name, _, _ := strings.Cut(line, " ")
			told[name]++
		}
	})
	if told["ok"] < 1000 || told["line"] < 1000 || told["long"] < 10 {
		t.Errorf("told %v", told)
	}
}

func TestDeskOfTextsOfFewParts(t *testing.T) {
	t.Parallel()
	parts := strings.Split("mem a[2]; fn(x){}|--|show|graph 2|mean 1 /|exec 3 0 / 1| |/|0|\n|\n|\n|walk|x", "|")
	r := rand.New(rand.NewSource(20))
	told := map[string]int{}
	for range 5 * seeds {
		s := ""
		if r.Intn(2) > 0 {
			s = "mem a[2]; fn(x){}\n--\n"
		}
		for range r.Intn(14) {
			s += parts[r.Intn(len(parts))]
		}
		if r.Intn(2) > 0 {
			s += "\n"
		}
		for _, line := range wantDesk(t, s) {
			name, _, _ := strings.Cut(line, " ")
			told[name]++
		}
	}
	for _, name := range strings.Split("ok line none long what done", " ") {
		if told[name] < 20 {
			t.Errorf("told %v", told)
		}
	}
}
