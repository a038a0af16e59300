package tests

import (
	"fmt"
	"math"
	"slices"
	"strings"
	"testing"
	"unsafe"

	"loop.example/g00385/impl"
)

func TestAsmOfEachForm(t *testing.T) {
	head := "mem 4 2\nparams 2\nslots 5\n"
	for text, want := range map[string]string{
		"li 0 0 0 0": "li r0 0", "li 15 0 0 -7": "li r15 -7", "li 1 0 0 9223372036854775807": "li r1 9223372036854775807", "li 1 0 0 -9223372036854775808": "li r1 -9223372036854775808",
		"ld 2 0 0 0": "ld r2 s0", "ld 15 0 0 4": "ld r15 s4", "sd 0 0 0 4": "sd r0 s4", "sd 10 0 0 0": "sd r10 s0",
		"alu 1 2 3 0": "alu r1 r2 + r3", "alu 3 2 1 1": "alu r3 r2 - r1", "alu 15 14 13 2": "alu r15 r14 * r13", "alu 0 0 0 3": "alu r0 r0 & r0", "alu 4 5 6 4": "alu r4 r5 == r6", "alu 7 8 9 5": "alu r7 r8 < r9",
		"lx 1 2 0 0": "lx r1 m0 r2", "lx 15 0 0 1": "lx r15 m1 r0", "sx 1 2 0 0": "sx r1 m0 r2", "sx 0 15 0 1": "sx r0 m1 r15",
		"in 0 0 0 0": "in r0", "in 15 0 0 0": "in r15", "out 0 0 0 0": "out r0", "out 15 0 0 0": "out r15",
		"jmp 0 0 0 0": "jmp w0", "jmp 0 0 0 1": "jmp w1", "jz 3 0 0 0": "jz r3 w0", "jz 0 0 0 1": "jz r0 w1",
		"ret 15 0 0 0": "ret r15", "mv 1 2 0 0": "mv r1 r2", "mv 15 0 0 0": "mv r15 r0",
	} {
		m := imageOf(t, text+" / ret 0 0 0 0")
		if got := impl.Asm(m); got != head+want+"\nret r0\n" {
			t.Errorf("%s is told as\n%s", text, got)
		}
		if got := impl.AsmWord(m, 0) + "|" + impl.AsmWord(m, 1); got != want+"|ret r0" {
			t.Errorf("the words of %s are %q", text, got)
		}
		wantSameText(t, text, m)
	}
}

func TestAsmOfTheFirstLines(t *testing.T) {
	for want, m := range map[string]impl.Image{
		"mem 1\nparams 0\nslots 0\nret r0\n":                                    {Sizes: []int{1}},
		"mem 16\nparams 6\nslots 6\nret r0\n":                                   {Sizes: []int{16}, Params: 6, Slots: 6},
		"mem 1 2 3 16\nparams 0\nslots 1\nret r0\n":                             {Sizes: []int{1, 2, 3, 16}, Slots: 1},
		fmt.Sprint("mem 10 9 8\nparams 5\nslots ", impl.MaxSlots, "\nret r0\n"): {Sizes: []int{10, 9, 8}, Params: 5, Slots: impl.MaxSlots},
		fmt.Sprint("mem 7 7\nparams 1\nslots ", impl.MaxSlots-1, "\nret r0\n"):  {Sizes: []int{7, 7}, Params: 1, Slots: impl.MaxSlots - 1},
	} {
		m.Code = manyWords(1)
		if got := impl.Asm(m); got != want {
			t.Errorf("%s is told as\n%s", plain(m), got)
		}
		wantSameText(t, want, m)
	}
}

func TestAsmOfAProgram(t *testing.T) {
	g := impl.Trim(impl.Optimize(impl.Lower(parsed(t, "mem a[4]; mem b[2]; fn (x) { while x < 4 { a[x] = get; x = x + 1; } return a[0] & b[1]; }")), 2))
	m := impl.Peep(impl.CodeWith(g, impl.Colors(g, 12)))
	want := `mem 4 2
params 1
slots 15
ld r4 s0
li r1 4
mv r5 r1
mv r1 r4
mv r2 r5
alu r3 r1 < r2
mv r5 r3
mv r1 r5
jz r1 w23
in r1
mv r5 r1
mv r1 r4
mv r3 r5
sx r3 m0 r1
li r1 1
mv r5 r1
mv r1 r4
mv r2 r5
alu r3 r1 + r2
mv r4 r3
mv r1 r4
mv r4 r1
jmp w1
li r1 0
mv r4 r1
mv r1 r4
lx r3 m0 r1
mv r4 r3
li r1 1
mv r5 r1
mv r1 r5
lx r3 m1 r1
mv r5 r3
mv r1 r4
mv r2 r5
alu r3 r1 & r2
mv r4 r3
mv r1 r4
ret r1
`
	if got := impl.Asm(m); got != want {
		t.Errorf("told as\n%s", got)
	}
	wantSameText(t, "Code", impl.Code(g))
	wantSameText(t, "CodeWith", m)
}

// wantNoAsm tells that a text is no image's, and which line is told of it.
func wantNoAsm(t *testing.T, s string, line int) {
	t.Helper()
	if got, at := impl.ReadAsm(s); at != line || !impl.SameImage(got, impl.Image{}) {
		t.Errorf("%.300q is read as %.300s, %d; want %d", s, plain(got), at, line)
	}
	if wantRead(t, "a wrong text", s) {
		t.Errorf("%.300q is an image", s)
	}
}

// tenLines are a text of an image with one line of each kind of part; each call makes them anew.
func tenLines() []string {
	return strings.Split("mem 4 2|params 1|slots 3|li r15 -9|ld r1 s2|alu r2 r1 == r15|lx r3 m1 r2|mv r4 r3|jz r4 w6|ret r0", "|")
}

func asmText(lines ...string) string { return strings.Join(lines, "\n") + "\n" }

func TestReadAsmOfOneWrongLine(t *testing.T) {
	if _, line := impl.ReadAsm(asmText(append(tenLines(), "ret r0", "jmp w0")...)); line != 0 {
		t.Fatalf("the lines to be changed: %d", line)
	}
	heads := [][]string{
		{"mem ", "mem  ", "mem x", "mem 4 x", "mem x 4", "mem 4,2", "mem r4", "Mem 4", "me 4", "memm 4", "4 2", "mem4 2", "mem 4 2;", "mem;", "mem\x00", "mem 4 2 mem", "mem mem", "mem  4", "mem 4  2", "mem: 4", "mem -0", "mem 04"},
		{"params", "params ", "params x", "params 1 1", "params 1 ", "params r1", "param 1", "parameters 1", "1", "slots 1", "mem 1", "params1", "params 01", "params -0", "params +1"},
		{"slots", "slots ", "slots x", "slots 3 3", "slots s3", "slot 3", "3", "params 3", "mem 3", "slots3", "slots 03", "slots +3", "slots 3 x"},
	}
	words := []string{
		"nop", "li", "LI r1 1", "l r1 1", "lii r1 1", "li r1 1;", "r1 li 1", "0: li r1 1", "li 1 0 0 1", "# li r1 1", "ret", "jmp", "mem 4 2", "params 1", "slots 3",
		// A word with one part less, with one more.
		"li r1", "li r1 1 1", "li 1", "ld r1", "ld r1 s0 s0", "sd s0", "sd r1 s0 r1", "alu r1 r1 +", "alu r1 + r1", "alu r1 r1 r1", "alu r1 r1 + r1 r1", "alu r1 r1 + + r1", "lx r1 m0", "lx r1 r1", "lx r1 m0 r1 r1", "sx r1 m0", "sx r1 m0 r1 0",
		"in", "in r1 r1", "in r1 0", "out", "out r1 r1", "jmp w0 w0", "jmp r0 w0", "jz r1", "jz w0", "jz r1 w0 w0", "ret r0 r0", "ret r0 0", "mv r1", "mv r1 r1 r1",
		// A part of another kind, and parts exchanged.
		"li 1 r1", "li r1 r1", "li s1 1", "li w1 1", "li r1 s1", "ld r1 m0", "ld r1 w0", "ld r1 0", "ld r1 r0", "ld s0 r1", "sd s0 r1", "sd r1 m0", "alu r1 r1 r1 +", "alu + r1 r1 r1", "alu s1 r1 + r1", "alu r1 1 + r1", "alu r1 r1 + 1", "alu r1 r1 0 r1",
		"lx r1 r1 m0", "lx m0 r1 r1", "lx r1 s0 r1", "lx r1 0 r1", "lx r1 m0 s1", "sx m0 r1 r1", "sx r1 r1 m0", "in 1", "in s1", "in m0", "out s1", "out 1", "jmp 0", "jmp r0", "jmp s0", "jz w0 r1", "jz r1 0", "jz r1 r0", "ret 0", "ret s0", "ret w0", "mv r1 s1", "mv s1 r1", "mv r1 1",
		// Signs that alu does not have.
		"alu r1 r1 / r1", "alu r1 r1 = r1", "alu r1 r1 === r1", "alu r1 r1 > r1", "alu r1 r1 <= r1", "alu r1 r1 | r1", "alu r1 r1 % r1", "alu r1 r1 && r1", "alu r1 r1 +- r1", "alu r1 r1 SIGN r1", "alu r1 r1  r1", "alu r1 r1 + r1 ", "alu r1 r1 +r1", "alu r1 r1+ r1", "alu r1 r1 ; r1",
		// A blank ahead of a number, and none where one has to be.
		"li r 1 1", "ld r1 s 0", "lx r1 m 0 r1", "jmp w 0", "lir1 1", "li r11", "ldr1 s0", "ld r1s0", "jmpw0", "ret r 0", "retr0",
		// Without a number.
		"li r 1", "li r1 ", "ld r1 s", "ld r s0", "lx r1 m r1", "jmp w", "jz r1 w", "ret r", "in r", "mv r r1", "mv r1 r",
		// Blanks and tabs too many.
		" li r1 1", "li  r1 1", "li r1  1", "li r1 1 ", "\tli r1 1", "li\tr1 1", "li r1\t1", "li r1 1\t", "li r1 1\r", "li r1 1\x00", "\x00", "", " ", "  ", "\t", "\r", "\xff", "ret r0\v", "ret r0\u00a0",
		// Marks twice, in capitals, behind the number.
		"li rr1 1", "li R1 1", "ld r1 S0", "ld r1 ss0", "ld r1 0s", "ret 0r", "jmp ww0", "jmp W0", "lx r1 mm0 r1", "lx r1 M0 r1",
	}
	for at := range tenLines() {
		wrong := words
		if at < 3 {
			wrong = append(slices.Clone(heads[at]), "", " ", "x", "li r1 1", "ret r0", "\xff", "\x00", " "+tenLines()[at], tenLines()[at]+" ", "\t"+tenLines()[at], tenLines()[at]+"\r", strings.Replace(tenLines()[at], " ", "  ", 1), strings.Replace(tenLines()[at], " ", "\t", 1))
		}
		for _, line := range wrong {
			lines := tenLines()
			lines[at] = line
			wantNoAsm(t, asmText(lines...), at+1)
			// What follows does not count, whatever it is.
			wantNoAsm(t, asmText(lines[:at+1]...), at+1)
			wantNoAsm(t, asmText(append(lines, "x", "", line)...), at+1)
			wantNoAsm(t, asmText(lines...)+"ret r0", at+1)
			wantNoAsm(t, strings.TrimSuffix(asmText(lines...), "\n"), at+1)
		}
	}
}

func TestReadAsmOfTwoWrongLines(t *testing.T) {
	for at := range tenLines() {
		for to := at + 1; to < 10; to++ {
			lines := tenLines()
			lines[at], lines[to] = "x", ""
			wantNoAsm(t, asmText(lines...), at+1)
			lines[at], lines[to] = "", "mem x"
			wantNoAsm(t, asmText(lines...), at+1)
			lines = tenLines()
			lines[at], lines[to] = lines[to], lines[at]
			// Words are lines wherever they stand behind the first three: another order is another image, or none.
			if at < 3 {
				wantNoAsm(t, asmText(lines...), at+1)
			} else {
				wantRead(t, "exchanged", asmText(lines...))
			}
		}
	}
	wantNoAsm(t, "mem 1\nslots 1\nparams 0\nret r0\n", 2)
	wantNoAsm(t, "mem 1\nparams 0\nparams 0\nret r0\n", 3)
	wantNoAsm(t, "params 0\nmem 1\nslots 1\nret r0\n", 1)
	wantNoAsm(t, "slots 1\nparams 0\nmem 1\nret r0\n", 1)
	wantNoAsm(t, "mem 1\nmem 1\nparams 0\nslots 1\nret r0\n", 2)
	wantNoAsm(t, "mem 1\nparams 0\nslots 1\nslots 1\nret r0\n", 4)
}

func TestReadAsmOfFewLines(t *testing.T) {
	for s, line := range map[string]int{
		"": 1, "\n": 1, "\n\n": 1, "x": 1, "x\n": 1, "mem": 1, "mem 1": 1, "mem \n": 1, "mem\n": 2, "mem\n\n": 2, "mem\nparams 0": 2, "mem\nparams 0\n": 3, "mem\nparams 0\nslots 1\n": 4, "mem\n 16\nparams 0\n": 2, "mem\n1\n": 2, "mem 1\n": 2, "mem 1\n\n": 2, "mem 1\nparams 0": 2, "mem 1\nparams 0\n": 3, "mem 1\nparams 0\nx": 3, "mem 1\nparams 0\nslots 1": 3,
		// Each of three lines is one; but there is no image without a word.
		"mem 1\nparams 0\nslots 1\n": 4, "mem 1\nparams 0\nslots 1\n\n": 4, "mem 1\nparams 0\nslots 1\nx": 4, "mem 1\nparams 0\nslots 1\nret r0": 4,
		"mem 1\nparams 0\nslots 1\nret r0\n\n": 5, "mem 1\nparams 0\nslots 1\nret r0\n\nret r0\n": 5, "mem 1\nparams 0\nslots 1\n\nret r0\n": 4, "\nmem 1\nparams 0\nslots 1\nret r0\n": 1, "mem 1\n\nparams 0\nslots 1\nret r0\n": 2, "mem 1\nparams 0\n\nslots 1\nret r0\n": 3,
		"mem 1\nparams 0\nslots 1\nret r0\n ": 5, "mem 1\nparams 0\nslots 1\nret r0\n \n": 5, "mem 1\nparams 0\nslots 1\nret r0\nret r0": 5, "mem 1\nparams 0\nslots 1\nret r0\n\n\n": 5,
		"mem 1 params 0 slots 1 ret r0": 1, "mem 1\r\nparams 0\r\nslots 1\r\nret r0\r\n": 1, "mem 1\rparams 0\rslots 1\rret r0\r": 1, "mem 1;params 0;slots 1;ret r0;": 1,
		strings.Repeat("\n", 100000): 1, strings.Repeat(" ", 100000): 1, strings.Repeat("mem 1\n", 50000): 2, "mem" + strings.Repeat(" 1", 50000): 1, "mem" + strings.Repeat(" 1", 50000) + "\n": 2,
		"mem" + strings.Repeat(" 1", 50000) + "\nparams 0\nslots 1\nret r0\n": 5, "mem 1\nparams " + strings.Repeat("9", 50000) + "\nslots 1\nret r0\n": 2,
	} {
		wantNoAsm(t, s, line)
	}
	// A last line without its newline, after each number of lines; with one it is an image at the end alone.
	lines := tenLines()
	for n := range lines {
		wantNoAsm(t, strings.TrimSuffix(asmText(lines[:n+1]...), "\n"), n+1)
		if n < 9 {
			wantNoAsm(t, asmText(lines[:n+1]...), n+2)
		}
	}
}

// numberPlaces has lines in which each number that can stand in one is a question mark, ordered by the line that they are.
var numberPlaces = []struct {
	line int
	text string
}{
	{0, "mem ? 2"}, {0, "mem 4 ?"}, {0, "mem 1 1 1 ?"}, {1, "params ?"}, {2, "slots ?"},
	{3, "li r? 5"}, {3, "li r1 ?"}, {4, "ld r? s1"}, {4, "ld r1 s?"}, {4, "sd r? s1"}, {4, "sd r1 s?"}, {5, "alu r? r1 + r1"}, {5, "alu r1 r? - r1"}, {5, "alu r1 r1 < r?"},
	{6, "lx r? m0 r1"}, {6, "lx r1 m? r1"}, {6, "lx r1 m0 r?"}, {6, "sx r? m0 r1"}, {6, "sx r1 m? r1"}, {6, "sx r1 m0 r?"}, {7, "mv r? r1"}, {7, "mv r1 r?"}, {7, "in r?"}, {7, "out r?"},
	{8, "jz r? w0"}, {8, "jz r1 w?"}, {8, "jmp w?"}, {9, "ret r?"},
}

// numberTexts are texts of numbers of 64 bits.
func numberTexts() []string {
	return []string{"0", "1", "9", "-1", "-9", "10", "15", "16", "-10", "999999", "1000000", "-1000000", "123456789012345678", "-123456789012345678", "1234567890123456789", "-1234567890123456789", "9223372036854775807", "-9223372036854775808", "9223372036854775806", "-9223372036854775807", "1000000000000000000", "4294967296", "4294967297", "-4294967296", "2147483648"}
}

// wrongNumbers are texts that are no number's of 64 bits.
func wrongNumbers() []string {
	return []string{
		"", "-", "+", "--1", "-0", "+0", "+1", "00", "01", "-00", "-01", "0-1", "1-", "000", "0123456789", " 1", "1 ", "\t1", "1\t", "\r1", "1\x00", "\x001", "0x1", "0b1", "0o1", "1_0", "1e1", "1.0", "1.", ".1", "1,0", "a", "one", "inf", "NaN", "½", "٣", "１", "−1", "\xff", "1\xff",
		"9223372036854775808", "-9223372036854775809", "9999999999999999999", "-9999999999999999999", "10000000000000000000", "18446744073709551615", "18446744073709551616", "18446744073709551617", "-18446744073709551616", "-18446744073709551615", "99999999999999999999", "12345678901234567890", "-12345678901234567890", "36893488147419103232",
		"09223372036854775807", "-09223372036854775808", "+9223372036854775807", strings.Repeat("9", 10000), strings.Repeat("0", 10000), "1" + strings.Repeat("0", 10000), "-" + strings.Repeat("1", 10000), strings.Repeat("-", 10000),
	}
}

func TestReadAsmOfNumbers(t *testing.T) {
	for _, place := range numberPlaces {
		read, none := 0, 0
		for _, number := range numberTexts() {
			lines := tenLines()
			lines[place.line] = strings.Replace(place.text, "?", number, 1)
			// It is a line whatever the number is: an image's, or a line of no image.
			s := asmText(lines...)
			if wantRead(t, place.text, s) {
				read++
				continue
			}
			none++
			wantNoAsm(t, s, 11)
		}
		if place.text == "li r1 ?" && none > 0 || place.text != "li r1 ?" && (none < 10 || none == len(numberTexts())) {
			t.Errorf("%s: %d numbers are read, %d are none of an image", place.text, read, none)
		}
		for _, number := range wrongNumbers() {
			lines := tenLines()
			lines[place.line] = strings.Replace(place.text, "?", number, 1)
			wantNoAsm(t, asmText(lines...), place.line+1)
		}
	}
}

func TestReadNum(t *testing.T) {
	for s, want := range map[string]int{
		"0": 0, "5": 5, "-5": -5, "10": 10, "999999": 999999, "1000000": 1000000, "-1000000": -1000000, "123456789012345678": 123456789012345678, "999999999999999999": 999999999999999999, "-999999999999999999": -999999999999999999,
		"1000000000000000000": 1000000000000000000, "9223372036854775807": math.MaxInt, "-9223372036854775808": math.MinInt, "9223372036854775806": math.MaxInt - 1, "-9223372036854775807": math.MinInt + 1,
	} {
		if n, ok := impl.ReadNum(s); n != want || !ok {
			t.Errorf("ReadNum(%q) = %d, %t", s, n, ok)
		}
	}
	for _, s := range numberTexts() {
		if !wantNum(t, s) {
			t.Errorf("%q is no number", s)
		}
	}
	for _, s := range wrongNumbers() {
		if n, ok := impl.ReadNum(s); n != 0 || ok {
			t.Errorf("ReadNum(%.60q) = %d, %t", s, n, ok)
		}
	}
	for b := range 256 {
		s := string([]byte{byte(b)})
		if ok := wantNum(t, s); ok != ('0' <= b && b <= '9') {
			t.Errorf("ReadNum(%q) is %t", s, ok)
		}
	}
}

func TestReadAsmAtTheLimits(t *testing.T) {
	words := func(n int) string { return strings.Repeat("li r0 0\n", n-1) + "ret r0\n" }
	for name, c := range map[string]struct {
		s    string
		line int
	}{
		"no words":          {"mem 1\nparams 0\nslots 1\n", 4},
		"most words":        {"mem 1\nparams 0\nslots 1\n" + words(6000), 0},
		"one word more":     {"mem 1\nparams 0\nslots 1\n" + words(6001), 6005},
		"far more":          {"mem 1\nparams 0\nslots 1\n" + words(50000), 50004},
		"more, and a wrong": {"mem 1\nparams 0\nslots 1\n" + words(7000) + "x\n", 7004},
		"one region":        {"mem 1\nparams 0\nslots 1\nlx r0 m0 r0\nret r0\n", 0},
		"four regions":      {"mem 16 1 16 1\nparams 0\nslots 1\nlx r0 m3 r0\nret r0\n", 0},
		"no region":         {"mem\nparams 0\nslots 1\nret r0\n", 5},
		"none, more words":  {"mem\nparams 0\nslots 1\nli r0 7\nmv r1 r0\nret r1\n", 7},
		"none, region 0":    {"mem\nparams 0\nslots 1\nlx r0 m0 r0\nret r0\n", 6},
		"none, no words":    {"mem\nparams 0\nslots 1\n", 4},
		"none, and a wrong": {"mem\nparams 0\nslots 1\nret 0\n", 4},
		"none, no newline":  {"mem\nparams 0\nslots 1\nret r0", 4},
		"none, no params":   {"mem\nparams\nslots 1\nret r0\n", 2},
		"none, no slots":    {"mem\nparams 0\nslots\nret r0\n", 3},
		"none, and a blank": {"mem \nparams 0\nslots 1\nret r0\n", 1},
		"five regions":      {"mem 1 1 1 1 1\nparams 0\nslots 1\nret r0\n", 5},
		"size 0":            {"mem 0\nparams 0\nslots 1\nret r0\n", 5},
		"size 16":           {"mem 16\nparams 0\nslots 1\nret r0\n", 0},
		"size 17":           {"mem 17\nparams 0\nslots 1\nret r0\n", 5},
		"the last size 17":  {"mem 1 1 1 17\nparams 0\nslots 1\nret r0\n", 5},
		"size below 0":      {"mem -1\nparams 0\nslots 1\nret r0\n", 5},
		"params below 0":    {"mem 1\nparams -1\nslots 1\nret r0\n", 5},
		"six params":        {"mem 1\nparams 6\nslots 6\nret r0\n", 0},
		"seven params":      {"mem 1\nparams 7\nslots 7\nret r0\n", 5},
		"a slot too few":    {"mem 1\nparams 6\nslots 5\nret r0\n", 5},
		"no slot":           {"mem 1\nparams 0\nslots 0\nret r0\n", 0},
		"slots below 0":     {"mem 1\nparams 0\nslots -1\nret r0\n", 5},
		"most slots":        {fmt.Sprint("mem 1\nparams 0\nslots ", impl.MaxSlots, "\nld r0 s", impl.MaxSlots-1, "\nret r0\n"), 0},
		"one slot more":     {fmt.Sprint("mem 1\nparams 0\nslots ", impl.MaxSlots+1, "\nret r0\n"), 5},
		"the last slot":     {"mem 1\nparams 0\nslots 3\nsd r0 s2\nret r0\n", 0},
		"one behind it":     {"mem 1\nparams 0\nslots 3\nsd r0 s3\nret r0\n", 6},
		"a slot below 0":    {"mem 1\nparams 0\nslots 3\nld r0 s-1\nret r0\n", 6},
		"register 15":       {"mem 1\nparams 0\nslots 1\nalu r15 r15 & r15\nret r15\n", 0},
		"register 16":       {"mem 1\nparams 0\nslots 1\nret r16\n", 5},
		"as A":              {"mem 1\nparams 0\nslots 1\nmv r0 r16\nret r0\n", 6},
		"as B":              {"mem 1\nparams 0\nslots 1\nalu r0 r0 + r16\nret r0\n", 6},
		"below 0":           {"mem 1\nparams 0\nslots 1\nret r-1\n", 5},
		"the last region":   {"mem 1 1\nparams 0\nslots 1\nsx r0 m1 r0\nret r0\n", 0},
		"one region behind": {"mem 1 1\nparams 0\nslots 1\nsx r0 m2 r0\nret r0\n", 6},
		"a region below 0":  {"mem 1 1\nparams 0\nslots 1\nlx r0 m-1 r0\nret r0\n", 6},
		"the last word":     {"mem 1\nparams 0\nslots 1\njz r0 w2\njmp w2\njmp w2\n", 0},
		"one word behind":   {"mem 1\nparams 0\nslots 1\njz r0 w2\nret r0\n", 6},
		"an OpJmp behind":   {"mem 1\nparams 0\nslots 1\njmp w1\n", 5},
		"a word below 0":    {"mem 1\nparams 0\nslots 1\njmp w-1\n", 5},
		"ends with an in":   {"mem 1\nparams 0\nslots 1\nin r0\n", 5},
		"ends with a jz":    {"mem 1\nparams 0\nslots 1\nret r0\njz r0 w0\n", 6},
		"a jump alone":      {"mem 1\nparams 0\nslots 1\njmp w0\n", 0},
	} {
		m, line := impl.ReadAsm(c.s)
		if line != c.line || (line == 0) != impl.ImageOk(m) {
			t.Errorf("%s: is read as %.200s, %d; want %d", name, plain(m), line, c.line)
		}
		if wantRead(t, name, c.s) != (c.line == 0) {
			t.Errorf("%s: is an image, or none", name)
		}
		if c.line > 0 {
			wantNoAsm(t, c.s, c.line)
		}
	}
}

// wantNoText tells of an image that is not ImageOk.
func wantNoText(t *testing.T, name string, m impl.Image) {
	t.Helper()
	if got := impl.Asm(m); got != "" {
		t.Errorf("%s: %.300s is told as %.80q", name, plain(m), got)
	}
	for _, at := range []int{math.MinInt, -1, 0, 1, len(m.Code) - 1, len(m.Code), math.MaxInt} {
		if got := impl.AsmWord(m, at); got != "" {
			t.Errorf("%s: word %d of %.300s is told as %.80q", name, at, plain(m), got)
		}
	}
}

func TestAsmOfWrongImages(t *testing.T) {
	texts := 0
	for name, m := range wrongImages() {
		wantNoText(t, name, m)
		// Where all its words can be told, the lines are some, but no image's; but for what a line does not tell.
		told := !slices.ContainsFunc(m.Code, func(w impl.Word) bool {
			return w.Op < 0 || w.Op > 11 || w.Op == impl.OpAlu && (w.N < 0 || w.N > 5) || strings.Contains(name, " with ")
		})
		if told {
			wantNoAsm(t, asmAgain(m), len(m.Code)+4)
			texts++
		}
	}
	if texts < 20 {
		t.Errorf("only %d have a text", texts)
	}
	farImages(func(m impl.Image) { wantNoText(t, plain(m), m) })
}

func TestAsmWordOfNone(t *testing.T) {
	for name, m := range map[string]impl.Image{"each Op": wholeImage(), "one word": {Sizes: []int{1}, Code: manyWords(1)}, "most words": {Sizes: []int{1}, Code: manyWords(6000)}} {
		for _, at := range []int{math.MinInt, -6000, -2, -1, len(m.Code), len(m.Code) + 1, 6001, math.MaxInt} {
			if got := impl.AsmWord(m, at); got != "" {
				t.Errorf("%s: word %d is %q", name, at, got)
			}
		}
		if first, last := impl.AsmWord(m, 0), impl.AsmWord(m, len(m.Code)-1); first != lineAgain(m.Code[0]) || last != lineAgain(m.Code[len(m.Code)-1]) {
			t.Errorf("%s: %q, %q", name, first, last)
		}
	}
}

func TestAsmWritesIntoNothing(t *testing.T) {
	someImages(func(m impl.Image) {
		m, tell := roomyImage(m)
		ahead := tell()
		impl.Asm(m)
		for at := -1; at <= len(m.Code); at++ {
			impl.AsmWord(m, at)
		}
		if tell() != ahead {
			t.Fatalf("written into: %s", plain(m))
		}
	})
}

func TestAnswersOfAsmAreNewMemory(t *testing.T) {
	someImages(func(m impl.Image) {
		s := impl.Asm(m)
		first, _ := impl.ReadAsm(s)
		ahead := plain(first)
		second, _ := impl.ReadAsm(s)
		spoilImage(second)
		if third, _ := impl.ReadAsm(s); plain(first) != ahead || plain(third) != ahead || impl.Asm(m) != s {
			t.Fatalf("an answer shares memory with another one: %s", plain(m))
		}
		if within(impl.Asm(m), s) || within(s, impl.Asm(m)) {
			t.Fatalf("two texts share memory: %s", plain(m))
		}
		for at := range m.Code {
			one, two := impl.AsmWord(m, at), impl.AsmWord(m, at)
			if within(one, s) || within(one, two) {
				t.Fatalf("the line of word %d shares memory: %s", at, plain(m))
			}
		}
	})
	// A text of memory that is written anew behind it.
	bytes := []byte(impl.Asm(wholeImage()))
	m, line := impl.ReadAsm(unsafe.String(&bytes[0], len(bytes)))
	clear(bytes)
	if line != 0 || !impl.SameImage(m, wholeImage()) {
		t.Errorf("%d: %s", line, plain(m))
	}
}

func TestAsmTellsAlikeEachTime(t *testing.T) {
	for seed := range int64(100) {
		m, _, _ := madeImage(seed)
		s := impl.Asm(m)
		for n := range 5 {
			cut := s[:len(s)*n/4]
			got, line := impl.ReadAsm(cut)
			again, same := impl.ReadAsm(cut)
			if impl.Asm(m) != s || line != same || plain(got) != plain(again) || impl.AsmWord(m, n) != impl.AsmWord(m, n) {
				t.Fatalf("of\n%sis told once more otherwise", s)
			}
		}
	}
}
