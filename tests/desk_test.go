package tests

import (
	"fmt"
	"math"
	"sort"
	"strings"
	"testing"

	"loop.example/g00385/impl"
)

// deskText is a program whose levels are told apart by what most commands answer.
const deskText = "mem a[2];\nfn (x) {\na[x] = 3 - 1;\nif x { put a[x]; } else { }\nreturn get;\n}\n"

// wantAnswers tells that each of these commands (ahead of a => sign) of a program is answered so, all in one script and each in one of its own.
func wantAnswers(t *testing.T, program string, answers string) {
	t.Helper()
	script, want := program+"--\n", "ok\n"
	for _, line := range strings.Split(strings.Trim(answers, "\n"), "\n") {
		command, answer, _ := strings.Cut(line, "=> ")
		command = strings.TrimSuffix(command, " ")
		if got := impl.Desk(program + "--\n" + command + "\n"); got != "ok\n"+answer+"\n" {
			t.Errorf("%q of\n%sis answered by %q; want %q", command, program, got, answer)
		}
		script += command + "\n"
		want += answer + "\n"
	}
	if got := impl.Desk(script); got != want {
		t.Errorf("Desk of\n%sis\n%swant\n%s", script, got, want)
	}
	wantDesk(t, script)
}

func TestDeskOfEachCommand(t *testing.T) {
	wantAnswers(t, deskText, `
mean 0 / => done -1
mean 1 / => done -1 2
mean 1 / 7 => done 7 2
mean 1 / 7 8 9 => done 7 2
mean 2 / 7 => trap
mean -1 / => trap
mean / => none
mean / 7 => none
mean 1 1 / 7 => none
walk 0 1 / 7 => done 7 2
walk 1 1 / -7 => done -7 2
walk 2 0 / => done -1
walk 3 2 / => trap
walk 3 1 0 / => none
walk 2 / => none
exec 0 1 / 7 => done 7 2
exec 1 1 / 7 => done 7 2
exec 2 0 / 999999 => done 999999
exec 3 1 / -999999 => done -999999 2
exec 3 -1 / 1 => trap
exec 0 1 1 / => none
cost 0 1 / 7 => 26
cost 1 1 / 7 => 16
cost 2 1 / 7 => 16
cost 3 1 / 7 => 18
cost 3 2 / 7 => 6
cost 2 / => -1
show => r0:2;params 1 1;r0[v0] = (3 - 1);if v0;put r0[v0];else;end;return get;
graph 0 => b0:;s1 = s0;s2 = 3;s3 = 1;s4 = s2 - s3;r0[s1] = s4;s5 = s0;if s5 b1 b2;b1:;s6 = s0;s7 = r0[s6];put s7;go b3;b2:;go b3;b3:;s8 = get;ret s8;b4:;s9 = 0;ret s9;
graph 1 => b0:;s4 = 2;r0[s0] = s4;if s0 b1 b2;b1:;s7 = r0[s0];put s7;go b3;b2:;go b3;b3:;s8 = get;ret s8;b4:;s9 = 0;ret s9;
graph 2 => b0:;s4 = 2;r0[s0] = s4;if s0 b1 b2;b1:;s7 = r0[s0];put s7;go b3;b2:;go b3;b3:;s8 = get;ret s8;
graph 3 => b0:;s4 = 2;r0[s0] = s4;if s0 b1 b2;b1:;s7 = r0[s0];put s7;go b3;b2:;go b3;b3:;s8 = get;ret s8;
code 2 => 0: li 1 0 0 2;1: sd 1 0 0 4;2: ld 1 0 0 0;3: ld 3 0 0 4;4: sx 3 1 0 0;5: ld 1 0 0 0;6: jz 1 0 0 13;7: ld 1 0 0 0;8: lx 3 1 0 0;9: sd 3 0 0 7;10: ld 1 0 0 7;11: out 1 0 0 0;12: jmp 0 0 0 13;13: in 1 0 0 0;14: sd 1 0 0 8;15: ret 1 0 0 0;
code 3 => 0: ld 4 0 0 0;1: li 1 0 0 2;2: mv 5 1 0 0;3: mv 1 4 0 0;4: mv 3 5 0 0;5: sx 3 1 0 0;6: mv 1 4 0 0;7: jz 1 0 0 14;8: mv 1 4 0 0;9: lx 3 1 0 0;10: mv 4 3 0 0;11: mv 1 4 0 0;12: out 1 0 0 0;13: jmp 0 0 0 14;14: in 1 0 0 0;15: mv 4 1 0 0;16: mv 1 4 0 0;17: ret 1 0 0 0;
asm 2 => mem 2;params 1;slots 10;li r1 2;sd r1 s4;ld r1 s0;ld r3 s4;sx r3 m0 r1;ld r1 s0;jz r1 w13;ld r1 s0;lx r3 m0 r1;sd r3 s7;ld r1 s7;out r1;jmp w13;in r1;sd r1 s8;ret r1;
asm 3 => mem 2;params 1;slots 10;ld r4 s0;li r1 2;mv r5 r1;mv r1 r4;mv r3 r5;sx r3 m0 r1;mv r1 r4;jz r1 w14;mv r1 r4;lx r3 m0 r1;mv r4 r3;mv r1 r4;out r1;jmp w14;in r1;mv r4 r1;mv r1 r4;ret r1;
count 0 => 16 1 1 29
count 1 => 11 1 1 19
count 2 => 9 1 1 16
count 3 => 9 1 1 18
places 0 0 => - - - - r0[b0+0] -
places 1 0 => - r0[b0+0]
places 2 1 => r0[b0+0] -
places 0 2 => -
places 3 3 => -
facts 0 0 => s1=0 s2=0 s3=0 s4=0 s5=0 s6=0 s7=0 s8=0 s9=0
facts 0 1 => s2=3 s3=1 s4=2 s6=0 s7=0 s8=0 s9=0
facts 3 1 => s1=0 s2=0 s3=0 s4=2 s5=0 s6=0 s7=0 s8=0 s9=0
facts 1 4 => -
rules 0 0 => 0
rules 1 1 => 0 1
rules 2 3 => 0 3
rules 0 4 => -
colors 0 12 => 0 1 2 3 2 1 0 0 0 0
colors 2 12 => 0 -1 -1 -1 1 -1 -1 0 0 -1
colors 2 1 => 0 -1 -1 -1 -1 -1 -1 0 0 -1
colors 1 2 => 0 -1 -1 -1 1 -1 -1 0 0 0
colors 3 0 => -1 -1 -1 -1 -1 -1 -1 -1 -1 -1
`)
}

func wantDeskOf(t *testing.T, text string, want string) {
	t.Helper()
	if got := impl.Desk(text); got != want {
		t.Errorf("Desk(%.300q) is\n%.300swant\n%.300s", text, got, want)
	}
	wantDesk(t, text)
}

func TestDeskOfTextsThatAreScriptsOrNone(t *testing.T) {
	const rightProgram = "mem a[1];\nfn () {\n}\n"
	for text, want := range map[string]string{
		"": "line 1\n", "\n": "line 1\n", "\n\n\n": "line 1\n", "x": "long\n", "x\n": "line 1\n", " ": "long\n", " \n": "line 1\n", "\x00": "long\n", "\xff\n": "line 1\n", "\r": "long\n", "\n\r": "long\n", "\n\x00\n": "line 2\n",
		"--": "long\n", "--\n": "line 1\n", "--\n--": "long\n", "--\n--\n": "line 1\nnone\n", "--\nshow\n": "line 1\nnone\n", "--\n\n\n": "line 1\nnone\nnone\n", "\n--\n": "line 1\n", "--\n" + rightProgram: "line 1\nnone\nnone\nnone\n",
		rightProgram: "ok\n", rightProgram[:len(rightProgram)-1]: "long\n", rightProgram + "\n": "ok\n", rightProgram + "\n\n--\n": "ok\n", rightProgram + " ": "long\n",
		rightProgram + "--": "long\n", rightProgram + "--\n": "ok\n", rightProgram + "--\nshow": "long\n", rightProgram + "--\nshow\n": "ok\nr0:1;params 0 0;\n", rightProgram + "--\nmean /\nmean /": "long\n",
		// There is no middle in these: all of it is the program.
		rightProgram + "show\n": "line 4\n", rightProgram + "-- \nshow\n": "line 4\n", rightProgram + " --\nshow\n": "line 4\n", rightProgram + "---\nshow\n": "line 4\n", rightProgram + "-\nshow\n": "line 4\n",
		rightProgram + "--\r\nshow\r\n": "line 4\n", rightProgram + "- -\nshow\n": "line 4\n", rightProgram + "--show\n": "line 4\n", rightProgram[:len(rightProgram)-1] + "--\nshow\n": "line 3\n", rightProgram + "\t--\nshow\n": "line 4\n",
		// What stands ahead of the middle is the program, be it only like one.
		rightProgram + "-- \n--\nshow\n": "line 4\nnone\n", rightProgram + "\n \n--\nshow\n": "ok\nr0:1;params 0 0;\n",
		// Behind the middle one more is a command like any other one that is none.
		rightProgram + "--\n--\n": "ok\nwhat\n", rightProgram + "--\n--\nshow\n--\n": "ok\nwhat\nr0:1;params 0 0;\nwhat\n", rightProgram + "--\n" + rightProgram + "--\nmean /\n": "ok\nwhat\nwhat\nwhat\nwhat\ndone 0\n",
		rightProgram + "--\n\n": "ok\nwhat\n", rightProgram + "--\n\n\nmean /\n\n": "ok\nwhat\nwhat\ndone 0\nwhat\n",
		// A program without its end, and others that are none, or have a wrong line.
		"mem a[1];\nfn () {\n--\n}\n": "line 2\nnone\n", "mem a[1];\n--\nmean /\nshow\nx\n\n": "line 1\nnone\nnone\nnone\nnone\n", "mem a[1];\nfn () {\nput 1;\n--\ngraph 0\n": "line 3\nnone\n", "mem a[1];\nfn () {\nput 1\n}\n--\nmean /\n": "line 4\nnone\n",
		"fn () {\n}\n--\nmean /\n": "line 1\nnone\n", "mem a[17];\nfn () {\n}\n--\nmean /\n": "line 1\nnone\n", "mem a[1];\nfn () {\nput b;\n}\n--\nmean /\nmean\n": "line 3\nnone\nnone\n", "mem a[1];\nfn () {\n}\n}\n--\n--\n": "line 4\nnone\n",
		"mem a[1];\nfn () {\nput ?;\n}\n--\nwalk 9\n": "line 3\nnone\n", "mem a[1];\nfn () {\n}\n" + strings.Repeat(" ", 3000) + "\n--\nshow\n": "line 1\nnone\n",
	} {
		wantDeskOf(t, text, want)
	}
}

func TestDeskAtTheLimitsOfAScript(t *testing.T) {
	if impl.MaxScript != 8000 {
		t.Errorf("MaxScript is %d", impl.MaxScript)
	}
	head := "mem a[1];\nfn () {\n}\n--\n"
	for n := impl.MaxScript - 2; n <= impl.MaxScript+2; n++ {
		want := []string{"ok\nwhat\n", "line 1\n"}
		if n > impl.MaxScript {
			want = []string{"long\n", "long\n"}
		}
		wantDeskOf(t, head+strings.Repeat("x", n-len(head)-1)+"\n", want[0])
		wantDeskOf(t, strings.Repeat(" ", n-1)+"\n", want[1])
		wantDeskOf(t, strings.Repeat(" ", n), "long\n")
	}
	for n := 198; n <= 203; n++ {
		want := []string{"ok\n" + strings.Repeat("what\n", n-4), "ok\n", "line 1\n", "line 1\n" + strings.Repeat("none\n", n-1)}
		if n > 200 {
			want = strings.Split("long\n|long\n|long\n|long\n", "|")
		}
		wantDeskOf(t, head+strings.Repeat("\n", n-4), want[0])
		wantDeskOf(t, head[:len(head)-3]+strings.Repeat("\n", n-3), want[1])
		wantDeskOf(t, strings.Repeat("\n", n), want[2])
		wantDeskOf(t, "--\n"+strings.Repeat("--\n", n-1), want[3])
		// A last line without its newline is none, so there is no script.
		wantDeskOf(t, head+strings.Repeat("\n", n-4)+"x", "long\n")
	}
	// Both limits at once, and a middle as the last line of all.
	both := head + strings.Repeat("x", 8000-len(head)-196) + strings.Repeat("\n", 196)
	wantDeskOf(t, both, "ok\n"+strings.Repeat("what\n", 196))
	wantDeskOf(t, both+"\n", "long\n")
	wantDeskOf(t, head[:len(head)-3]+strings.Repeat("\n", 196)+"--\n", "ok\n")
	wantDeskOf(t, head[:len(head)-3]+strings.Repeat("\n", 197)+"--\n", "long\n")
	// The program has a limit of its own.
	wantDeskOf(t, "mem a[1];fn(){}"+strings.Repeat(" ", impl.MaxText-16)+"\n--\nmean /\n", "ok\ndone 0\n")
	wantDeskOf(t, "mem a[1];fn(){}"+strings.Repeat(" ", impl.MaxText-15)+"\n--\nmean /\n", "line 1\nnone\n")
	wantDeskOf(t, strings.Repeat("x", 100000), "long\n")
	wantDeskOf(t, strings.Repeat("\n", 100000), "long\n")
}

// commandsOf tells each way to write a command, with a level where L stands, and 0 as each other number.
func commandsOf(level string) []string {
	list := []string{}
	for _, form := range commandForms {
		list = append(list, strings.NewReplacer("L", level, "N", "0", "R", "0 / 0").Replace(form))
	}
	return list
}

// wantWhat tells that these lines are no commands.
func wantWhat(t *testing.T, lines ...string) {
	t.Helper()
	for len(lines) > 0 {
		n := min(len(lines), 150)
		text := deskText + "--\n" + strings.Join(lines[:n], "\n") + "\n"
		if len(text) > impl.MaxScript {
			t.Fatal("too long a script")
		}
		for at, answer := range wantDesk(t, text)[1:] {
			if answer != "what" {
				t.Errorf("%q is answered by %q", lines[at], answer)
			}
		}
		lines = lines[n:]
	}
}

func TestDeskOfLinesThatAreNoCommands(t *testing.T) {
	wantWhat(t, "", " ", "  ", "/", "0", "x", "--", "-- ", " --", "---", "-", "what", "none", "ok", "long", "line 1", "\t", "\r", "\x00", "\xff", "show\r", "show;", "Show", "SHOW", "sho", "shows", "show 0", "show /", "show show", "show ", " show", "show  ", "\tshow", "show\t", "mem a[2];", "build 0", "level 0", "parse", "trim 0", "weight 0", "place 0 0", "fact 0 0", "rule 0 0", "color 0 0", "run 0 0 / 0", "R", "L", "N")
	for _, line := range commandsOf("2") {
		wantWhat(t, line+" ", " "+line, line+" 0 / 0 /", line+" x", line+"x", "x"+line, line+"\r", line+"\t", line+";", line+" --", strings.ToUpper(line), line+" "+line, line+" / /", line+"  ")
		if strings.Contains(line, " ") {
			wantWhat(t, strings.Replace(line, " ", "  ", 1), strings.Replace(line, " ", "", 1), strings.Replace(line, " ", "\t", 1), strings.Replace(line, " ", " x ", 1), strings.Replace(line, " ", ",", 1), line[:strings.LastIndex(line, " ")]+" x")
		}
	}
}

func TestDeskOfLevelsThatAreNone(t *testing.T) {
	for _, level := range []string{"4", "5", "-1", "-2", "01", "00", "-0", "+1", "", "x", "/", "1.", "1,", "0x1", "10", "22", "999999", "-999999", "1000000", "9223372036854775808", "١", "b1", "L", "1\r", "two", "--"} {
		for at, line := range commandsOf(level) {
			if strings.Contains(commandForms[at], "L") {
				wantWhat(t, line)
			}
		}
	}
	// Without a level the first number stands in its place; where it can be one, the rest is what it is of that level.
	for at, line := range commandsOf("") {
		if !strings.Contains(commandForms[at], "L") {
			continue
		}
		line = strings.Replace(line, "  ", " ", 1)
		wantWhat(t, strings.Fields(line)[0], strings.Fields(line)[0]+" ")
		if !strings.Contains(commandForms[at], "R") {
			wantWhat(t, strings.TrimSuffix(line, " "))
		}
	}
	wantWhat(t, "graph", "count", "walk / 1", "exec /", "cost /", "walk 4 / 0", "places 0", "facts 1", "rules 2", "colors 3")
	wantAnswers(t, deskText, "walk 0 / 1=> none\nexec 0 /=> none\ncost 1 /=> -1\nwalk 3 1 /=> done -1 2")
	// mean and show have no level.
	wantWhat(t, "show 0", "show 3")
	wantAnswers(t, deskText, "mean 2 1 / 1=> none\nmean 2 / 1=> trap")
}

func TestDeskOfSlashesWhereTheyDoNotStand(t *testing.T) {
	for _, name := range []string{"mean", "walk 0", "exec 3", "cost 1"} {
		wantWhat(t, name, name+" 1", name+" 1 2", name+" 1 //", name+" 1 / /", name+" / 1 /", name+" / /", name+" // 1", name+" 1/", name+" /1", name+" 1 /1", name+" 1/1", name+" 1 \\ 1", name+" 1 |", name+" 1 / 1 / 1", name+"/", name+" 1  / 1", name+" 1 /  1", name+" 1 / 1 ", name+" 1 / ", name+"  1 /", name+" , / ,", name+" 1, 1 / 1")
	}
	for _, name := range []string{"show", "graph 0", "code 1", "asm 2", "count 3"} {
		wantWhat(t, name+" /", name+" / /", name+" 0 /", name+" / 0", "/ "+name)
	}
	for _, name := range []string{"places 0", "facts 1", "rules 2", "colors 3"} {
		wantWhat(t, name+" /", name+" 0 /", name+" / 0", name+" 0 / 0", name+" 0/", "/ "+name+" 0")
	}
	wantWhat(t, "/ mean 1", "mean 1 2 3 /\t", "walk / 0 1", "/")
	// First, last and alone it stands where it has to.
	wantAnswers(t, "mem a[1];\nfn () {\nput get;\n}\n", "mean / 5=> done 0 5\nmean /=> done 0 -1\nwalk 2 / 5=> done 0 5\nexec 3 / 5 6=> done 0 5\nmean 5 /=> none\ncost 0 5 /=> -1")
}

func TestDeskOfNumbers(t *testing.T) {
	const echo = "mem a[1];\nfn (x) {\nput x;\nput get;\n}\n"
	for _, n := range []string{"0", "1", "-1", "10", "999999", "-999999", "100000", "-5"} {
		for _, name := range []string{"mean", "walk 0", "walk 3", "exec 1", "exec 3"} {
			wantAnswers(t, echo, fmt.Sprintf("%s %s / %s=> done 0 %s %s", name, n, n, n, n))
		}
	}
	wrong := []string{"1000000", "-1000000", "9999999", "9223372036854775807", "9223372036854775808", "-0", "+1", "01", "-01", "00", "", "-", "x", "1x", "x1", "1.0", "1e3", "0x1", "1_0", "--1", "1-", " ", "\t1", "1\r", "\x00", "½", "٣"}
	for _, n := range wrong {
		for _, name := range []string{"mean", "walk 0", "exec 3", "cost 2"} {
			wantWhat(t, name+" "+n+" / 1", name+" 1 / "+n, name+" 1 "+n+" / 1", name+" 1 / 1 "+n, name+" "+n+" /", name+" / "+n)
		}
		for _, name := range []string{"places 0", "facts 1", "rules 2", "colors 3"} {
			wantWhat(t, name+" "+n)
		}
	}
}

func TestDeskOfMuchInput(t *testing.T) {
	const echo = "mem a[1];\nfn () {\nput get;\n}\n"
	for _, n := range []int{99, 100, 101, 102, 3000} {
		want := "done 0 7"
		cost := fmt.Sprint(impl.Cost(impl.Peep(impl.Code(impl.Lower(parsed(t, echo)))), nil, []int{7}))
		if n > 100 {
			want, cost = "none", "-1"
		}
		input := strings.Repeat(" 7", n)
		for _, name := range []string{"mean", "walk 0", "walk 3", "exec 0", "exec 3"} {
			wantDeskOf(t, echo+"--\n"+name+" /"+input+"\n", "ok\n"+want+"\n")
		}
		wantDeskOf(t, echo+"--\ncost 0 /"+input+"\n", "ok\n"+cost+"\n")
		wantDeskOf(t, echo+"--\nmean"+input+" /\n", "ok\nnone\n")
	}
}

func TestNumbersOfALineAreNoneOfTheNextOne(t *testing.T) {
	const echo = "mem a[1];\nfn (x) {\nput x;\nput get;\nput get;\n}\n"
	wantAnswers(t, echo, "mean 1 / 2 3=> done 0 1 2 3\nmean 4 /=> done 0 4 -1 -1\nmean /=> none\nmean 5 / 6=> done 0 5 6 -1\ngraph 9=> what\nmean 7 8 / x=> what\nwalk 0 7 / 8=> done 0 7 8 -1\nfacts 0 99=> -\nexec 3 1 / 1=> done 0 1 1 -1\nrules 2 0=> 0\nrules 2 3=> -\nrules 2 0=> 0\nwalk 1 2 2=> what\nwalk 1 2 /=> done 0 2 -1 -1")
	// Of a level that was asked for ahead, with others between, the same is told.
	wantAnswers(t, deskText, "count 2=> 9 1 1 16\ncount 0=> 16 1 1 29\ncount 3=> 9 1 1 18\ncount 2=> 9 1 1 16\ncount 1=> 11 1 1 19\ncount 0=> 16 1 1 29\ncount 4=> what\nshow=> r0:2;params 1 1;r0[v0] = (3 - 1);if v0;put r0[v0];else;end;return get;\ncount 3=> 9 1 1 18")
}

func TestDeskOfBlocksAndColorsThatAreNone(t *testing.T) {
	for level := range 4 {
		for _, b := range []int{-999999, -1, 5, 6, 300, 999999} {
			for _, name := range []string{"places", "facts", "rules"} {
				wantAnswers(t, deskText, fmt.Sprintf("%s %d %d=> -", name, level, b))
			}
		}
		for _, k := range []int{-999999, -1, 13, 14, 999999} {
			wantAnswers(t, deskText, fmt.Sprintf("colors %d %d=> -", level, k))
		}
		wantAnswers(t, deskText, fmt.Sprintf("colors %d 0=> %s", level, strings.TrimSuffix(strings.Repeat("-1 ", 10), " ")))
		wantAnswers(t, deskText, fmt.Sprintf("colors %d 12=> %s", level, numbersText(impl.Colors(levelAgain(parsed(t, deskText), level), 12))))
	}
	// Levels 2 and 3 have a block less.
	wantAnswers(t, deskText, "rules 1 4=> -\nplaces 0 4=> -\nplaces 1 4=> -\nplaces 2 4=> -\nfacts 3 4=> -\nplaces 0 3=> -\nplaces 0 1=> - r0[b0+0] -")
}

func TestDeskGivesAsMuchFuelAsItSays(t *testing.T) {
	ones := func(n int) string { return "fuel" + strings.Repeat(" 1", n) }
	// Each round takes 2 of the text, 5 of the graph (one goes to the first round), 7 of the code: the last number is put out with the last of it.
	wantAnswers(t, "mem a[1];\nfn () {\nwhile 1 { put 1; }\n}\n", "mean /=> "+ones(500)+"\nwalk 0 /=> "+ones(2000)+"\nexec 0 /=> "+ones(7143)+"\ncost 0 /=> 100000\ncost 3 /=> 100000")
	const count = "mem a[1];\nfn (x) {\nwhile x { x = x - 1; }\nreturn 5;\n}\n"
	wantAnswers(t, count, "mean 499 /=> done 5\nmean 500 /=> fuel\nmean 0 /=> done 5\nmean -1 /=> fuel")
	p := parsed(t, count)
	for level := range 4 {
		g := impl.Level(p, level)
		m, _ := impl.Build(count, level)
		last := sort.Search(10000, func(n int) bool { return impl.Steps(g, []int{n}, nil) > 10000 }) - 1
		most := sort.Search(50000, func(n int) bool { return impl.Cost(m, []int{n}, nil) > 50000 }) - 1
		if last < 1000 || most < 3000 {
			t.Errorf("level %d ends in time with %d, its code with %d", level, last, most)
		}
		wantAnswers(t, count, fmt.Sprintf("walk %d %d /=> done 5\nwalk %d %d /=> fuel\nexec %d %d /=> done 5\nexec %d %d /=> fuel", level, last, level, last+1, level, most, level, most+1))
	}
}

// manySteps tells a program of 24 statements of 40 steps, one of 38, one of 1 for each if, and that at the end.
func manySteps(ifs int) string {
	sum := func(n int) string { return "0" + strings.Repeat("+0", n-1) }
	return "mem a[1];fn(){" + strings.Repeat("put "+sum(20)+";", 24) + "put " + sum(19) + ";" + strings.Repeat("if 0{}else{}", ifs) + "}\n"
}

// manySlots tells a program of 6 parameters, 25 ifs that make 39 slots, one that makes 17, as many that make 1, and the slot at the end.
func manySlots(ifs int) string {
	sum := func(n int) string { return "0" + strings.Repeat("+0", n-1) }
	return "mem a[1];fn(a0,a1,a2,a3,a4,a5){" + strings.Repeat("if "+sum(20)+"{}else{}", 25) + "if " + sum(9) + "{}else{}" + strings.Repeat("if 0{}else{}", ifs) + "}\n"
}

// manyBlocks tells a program of 99 ifs, with three blocks each, and returns with one.
func manyBlocks(returns int) string {
	ifs := strings.Repeat("if 0{}else{}", 49)
	return "mem a[1];fn(){if get{" + ifs + "}else{" + ifs + "}" + strings.Repeat("return 7;", returns) + "}\n"
}

func TestDeskOfProgramsAtTheLimitsOfAGraph(t *testing.T) {
	for name, c := range map[string]struct {
		right, wrong string
		runs         string
		weight       string
	}{
		"steps":  {manySteps(1), manySteps(2), "mean /=> done 0" + strings.Repeat(" 0", 25), "1008 0 0"},
		"slots":  {manySlots(1), manySlots(2), "mean 0 0 0 0 0 0 /=> done 0", "1080 0 0"},
		"blocks": {manyBlocks(2), manyBlocks(3), "mean /=> done 7", "404 0 0"},
	} {
		right := impl.Lower(parsed(t, c.right))
		wrong := impl.Lower(parsed(t, c.wrong))
		if !impl.GraphOk(right) || impl.GraphOk(wrong) {
			t.Fatalf("%s: %d slots, %d blocks, weight %d are right; %d slots, %d blocks, weight %d are wrong", name, right.Slots, len(right.Blocks), impl.Weight(right), wrong.Slots, len(wrong.Blocks), impl.Weight(wrong))
		}
		wantAnswers(t, c.right, c.runs)
		wantAnswers(t, c.wrong, c.runs)
		builds(t, c.right)
		for level := range 4 {
			m, line := impl.Build(c.right, level)
			if line != 0 || !impl.ImageOk(m) {
				t.Errorf("%s: level %d has no code: %d", name, level, line)
			}
			if m, line = impl.Build(c.wrong, level); line != -1 || !impl.SameImage(m, impl.Image{}) {
				t.Errorf("%s: level %d of a program that is too great: %s, %d", name, level, plain(m), line)
			}
			// The graph is told, but nothing is done with it.
			if g := impl.Level(parsed(t, c.wrong), level); !impl.SameGraph(g, wrong) {
				t.Errorf("%s: level %d is another graph", name, level)
			}
			run := strings.Replace(strings.Split(c.runs, "=>")[0], "mean", fmt.Sprint(level), 1)
			wantAnswers(t, c.wrong, fmt.Sprintf("walk %s=> none\nexec %s=> none\ncost %s=> -1\ngraph %d=> -\ncode %d=> -\nasm %d=> -\ncount %d=> %s 0\nplaces %d 0=> -\nfacts %d 0=> -\nrules %d 0=> -\ncolors %d 12=> -\ngraph 4=> what", run, run, run, level, level, level, level, c.weight, level, level, level, level))
		}
	}
}

func TestLevel3HasSlotsInRegisters(t *testing.T) {
	moves, less := 0, 0
	for seed := range int64(200) {
		s := madeText(seed)
		for level := range 4 {
			m, line := impl.Build(s, level)
			if line != 0 {
				continue
			}
			if level < 3 && impl.CountOp(m, impl.OpMv) > 0 {
				t.Fatalf("level %d of %q has moves", level, s)
			}
			moves += impl.CountOp(m, impl.OpMv)
			g := impl.Level(parsed(t, s), level)
			colors := impl.Colors(g, 12)
			with := impl.Peep(impl.CodeWith(g, colors))
			if level == 3 && !impl.SameImage(m, with) || level < 3 && !impl.SameImage(m, impl.Peep(impl.Code(g))) {
				t.Fatalf("level %d of %q is\n%s", level, s, impl.ShowCode(m))
			}
			for _, w := range m.Code {
				if level == 3 && w.Op == impl.OpSd && colors[w.N] >= 0 {
					t.Fatalf("slot %d of %q stands in a register", w.N, s)
				}
			}
			if level == 3 && !impl.SameImage(with, impl.Peep(impl.CodeWith(g, impl.Colors(g, 11)))) {
				less++
			}
		}
	}
	if moves < 1000 {
		t.Errorf("only %d moves", moves)
	}
	// Twelve slots that are live at once have a color each; of a thirteenth there is none left.
	text := "mem a[1];\nfn (p) {\n"
	sum := "p"
	for i := range 13 {
		text += fmt.Sprintf("let v%d = get;\n", i)
		sum += fmt.Sprintf(" + v%d", i)
	}
	text += "while p { put " + sum + "; p = p - 1; }\n}\n"
	m, _ := wantSameBuild(t, text, 3)
	g := impl.Level(parsed(t, text), 3)
	if whole := impl.CodeWith(g, impl.Colors(g, 12)); len(m.Code) >= len(whole.Code) {
		t.Errorf("no load behind a store is left out of\n%s", impl.ShowCode(m))
	}
	registers := map[int]bool{}
	for _, w := range m.Code {
		if w.Op == impl.OpMv {
			registers[w.R] = true
		}
	}
	if !registers[15] || !registers[4] || impl.CountOp(m, impl.OpSd) == 0 || impl.CountOp(m, impl.OpLd) == 0 {
		t.Errorf("the registers of\n%sare %v", impl.ShowCode(m), registers)
	}
	input := upTo(13)
	wantAnswers(t, text, "exec 3 2 / "+numbersText(input)+"=> done 0 80 79")
}

func TestLevelOfNone(t *testing.T) {
	programs := []impl.Program{{}, prog(0), whole(), parsed(t, deskText)}
	for level := range 4 {
		for _, p := range programs[1:] {
			if g := impl.Level(p, level); !impl.GraphOk(g) || !impl.SameGraph(g, levelAgain(p, level)) {
				t.Errorf("level %d of %s is\n%s", level, plain(p), graphText(g))
			}
		}
	}
	for _, level := range []int{math.MinInt, -4, -3, -2, -1, 4, 5, 10, 255, 256, 1 << 32, math.MaxInt} {
		for _, p := range programs {
			if g := impl.Level(p, level); !impl.SameGraph(g, impl.Graph{}) {
				t.Errorf("level %d of %s is\n%s", level, plain(p), graphText(g))
			}
		}
		m, line := wantSameBuild(t, deskText, level)
		if line != -1 || !impl.SameImage(m, impl.Image{}) {
			t.Errorf("Build of level %d is %s, %d", level, plain(m), line)
		}
		// Where there is no program either, its line is told.
		if _, line := wantSameBuild(t, "mem a[1];\nfn () {\n", level); line != 2 {
			t.Errorf("Build of no program of level %d tells line %d", level, line)
		}
	}
}

func TestLevelOfWrongPrograms(t *testing.T) {
	for name, change := range map[string]func(p *impl.Program){
		"no region":            func(p *impl.Program) { p.Sizes = nil },
		"five regions":         func(p *impl.Program) { p.Sizes = []int{1, 1, 1, 1, 1} },
		"a size of 17":         func(p *impl.Program) { p.Sizes[0] = 17 },
		"parameters below 0":   func(p *impl.Program) { p.Params = -1 },
		"seven parameters":     func(p *impl.Program) { p.Params, p.Vars = 7, 9 },
		"few variables":        func(p *impl.Program) { p.Vars = 0 },
		"too many":             func(p *impl.Program) { p.Vars = 21 },
		"no such kind":         func(p *impl.Program) { p.Body[0].Kind = 6 },
		"a kind below 0":       func(p *impl.Program) { p.Body[0].Kind = -1 },
		"no expression":        func(p *impl.Program) { p.Body[0].Exps = nil },
		"no such expression":   func(p *impl.Program) { p.Body[0].Exps[0].Kind = 5 },
		"no such sign":         func(p *impl.Program) { p.Body[0].Exps[0] = op("/", num(1), num(2)) },
		"no such variable":     func(p *impl.Program) { p.Body[0].Exps[0] = vari(99) },
		"no such region":       func(p *impl.Program) { p.Body[0].Exps[0] = load(4, -1, num(0)) },
		"a number below 0":     func(p *impl.Program) { p.Body[0].Exps[0] = num(-1) },
		"too great a number":   func(p *impl.Program) { p.Body[0].Exps[0] = num(1000000000) },
		"a list beside a kind": func(p *impl.Program) { p.Body[0].A = []impl.Stmt{put(num(1))} },
		"too many statements":  func(p *impl.Program) { p.Body = make([]impl.Stmt, 51) },
		"far too many":         func(p *impl.Program) { p.Body = make([]impl.Stmt, 100000) },
	} {
		p := parsed(t, deskText)
		change(&p)
		if impl.ProgramOk(p) {
			t.Fatalf("%s: is a program", name)
		}
		for level := -1; level <= 4; level++ {
			if g := impl.Level(p, level); !impl.SameGraph(g, impl.Graph{}) {
				t.Errorf("%s: level %d is\n%s", name, level, graphText(g))
			}
		}
	}
	// Lists that hold themselves are no program's.
	kids := []impl.Exp{op("+"), op("+")}
	kids[0].Kids, kids[1].Kids = kids, kids
	list := []impl.Stmt{while(kids[0]), iff(kids[1], nil, nil)}
	list[0].A, list[1].A, list[1].B = list, list, list
	for level := -1; level <= 4; level++ {
		if g := impl.Level(prog(1, list...), level); !impl.SameGraph(g, impl.Graph{}) {
			t.Errorf("level %d of a list that holds itself is\n%s", level, graphText(g))
		}
	}
}

func TestBuildOfTextsThatAreNoPrograms(t *testing.T) {
	for s, line := range map[string]int{
		"": 1, "\n": 1, "x": 1, "mem a[1];\nfn () {\n": 2, "mem a[1];\nfn () {\n}\n": 0, "mem a[1];\nfn () {\n}": 0, "mem a[1];fn(){}": 0, "mem a[1];\nfn () {\n}\n--\n": 4, "mem a[1];\nfn () {\nput b;\n}\n": 3, "mem a[1];\nfn () {\nput 1 ?;\n}\n": 3,
		"mem a[0];\nfn () {\n}\n": 1, "mem a[16];\nfn () {\n}\n": 0, "mem a[17];\nfn () {\n}\n": 1, "fn () {\n}\n": 1, "\n\n\nfn\n": 4, "--\n": 1, "ok\n": 1, "\xff": 1, "\n\n\xff": 3, strings.Repeat(" ", 3001): 1, strings.Repeat("\n", 3000): 1, "mem a[1];fn(){}" + strings.Repeat("\n", 2985): 0, "mem a[1];fn(){}" + strings.Repeat("\n", 2986): 1,
	} {
		for _, level := range []int{-1, 0, 1, 2, 3, 4} {
			want := line
			if line == 0 && (level < 0 || level > 3) {
				want = -1
			}
			m, got := wantSameBuild(t, s, level)
			if got != want || got != 0 && !impl.SameImage(m, impl.Image{}) {
				t.Errorf("Build(%.60q, %d) is %s, %d; want %d", s, level, plain(m), got, want)
			}
		}
	}
}
