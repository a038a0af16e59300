package tests

import (
	"math"
	"regexp"
	"slices"
	"strconv"
	"strings"
	"testing"
	"unsafe"

	"loop.example/g00385/impl"
)

var words = []string{"mem", "fn", "let", "ptr", "in", "if", "else", "while", "put", "get", "return"}

var signs = []string{"==", "(", ")", "{", "}", "[", "]", ",", ";", "=", "<", "+", "-", "*", "&"}

func name(text string, line int) impl.Token {
	return impl.Token{Kind: impl.TokName, Text: text, Line: line}
}

func number(n int, line int) impl.Token {
	return impl.Token{Kind: impl.TokNumber, N: n, Line: line}
}

func sign(text string, line int) impl.Token {
	return impl.Token{Kind: impl.TokSign, Text: text, Line: line}
}

func wantWords(t *testing.T, s string, want ...impl.Token) {
	t.Helper()
	got, line := impl.Lex(s)
	if line != 0 || !slices.Equal(got, want) {
		t.Errorf("Lex(%q) = %v, %d; want %v, 0", s, got, line, want)
	}
}

func wantNoWords(t *testing.T, s string, want int) {
	t.Helper()
	got, line := impl.Lex(s)
	if line != want || len(got) != 0 {
		t.Errorf("Lex(%q) = %v, %d; want nothing, %d", s, got, line, want)
	}
}

// Promise 1, its first half.
func TestNumberComesBackFromItsText(t *testing.T) {
	for n := -999999; n <= 999999; n++ {
		if got, ok := impl.ReadInt(impl.DecText(n)); got != n || !ok {
			t.Fatalf("ReadInt(DecText(%d)) = %d, %t", n, got, ok)
		}
	}
}

// Promise 1, its second half.
func TestBlanksBehindChangeNoWord(t *testing.T) {
	texts := []string{
		"", "a", "let", "lets", "12", "123456789", "=", "==", "===", "a=", "a\n", "a\n\n1",
		"mem a[4];\nfn (x) { put x; }\n", "abcdefgh", "!", "a\n.", "abcdefghi", "1234567890", "x\n= !",
	}
	for _, s := range texts {
		want, line := impl.Lex(s)
		for _, n := range []int{1, 2, 100, impl.MaxText - len(s)} {
			got, at := impl.Lex(s + strings.Repeat(" ", n))
			if at != line || !slices.Equal(got, want) {
				t.Errorf("Lex(%q and %d blanks) = %v, %d; want %v, %d", s, n, got, at, want, line)
			}
		}
	}
}

func TestIsWord(t *testing.T) {
	for _, s := range words {
		if !impl.IsWord(s) {
			t.Errorf("IsWord(%q) = false", s)
		}
		for _, other := range []string{s + "s", s + " ", " " + s, s[1:], strings.ToUpper(s), s + "\x00", s + s} {
			if impl.IsWord(other) {
				t.Errorf("IsWord(%q) = true", other)
			}
		}
	}
	for _, s := range append([]string{"", "a", "i", "f", "wh"}, signs...) {
		if impl.IsWord(s) {
			t.Errorf("IsWord(%q) = true", s)
		}
	}
}

func TestNameOk(t *testing.T) {
	for _, s := range []string{"a", "z", "a0", "z9", "abcdefgh", "a1234567", "lets", "inx", "le", "ifelse", "mem1"} {
		if !impl.NameOk(s) {
			t.Errorf("NameOk(%q) = false", s)
		}
	}
	wrong := []string{
		"", "0", "9a", "abcdefghi", "a12345678", "A", "aB", "a b", " a", "a ", "a\n", "a_", "a-", "\xc3\xa4", "a\x00",
		"`", "{", "a`", "a{", "a/", "a:", strings.Repeat("a", 10000),
	}
	for _, s := range append(wrong, words...) {
		if impl.NameOk(s) {
			t.Errorf("NameOk(%q) = true", s)
		}
	}
}

func TestLexTellsKindTextNumberAndLine(t *testing.T) {
	wantWords(t, "mem a[4];\nlet x1 = y == 12 & get",
		sign("mem", 1), name("a", 1), sign("[", 1), number(4, 1), sign("]", 1), sign(";", 1),
		sign("let", 2), name("x1", 2), sign("=", 2), name("y", 2), sign("==", 2), number(12, 2), sign("&", 2), sign("get", 2))
	for _, s := range append(append([]string{}, words...), signs...) {
		wantWords(t, s, sign(s, 1))
		wantWords(t, " \n "+s+"\n"+s+" ", sign(s, 2), sign(s, 3))
	}
	wantWords(t, "")
	wantWords(t, " \n\n ")
	wantWords(t, "\n\na\n\n\nb", name("a", 3), name("b", 6))
}

func TestLexTakesTheLongest(t *testing.T) {
	wantWords(t, "=", sign("=", 1))
	wantWords(t, "===", sign("==", 1), sign("=", 1))
	wantWords(t, "====", sign("==", 1), sign("==", 1))
	wantWords(t, "= =", sign("=", 1), sign("=", 1))
	wantWords(t, "=\n=", sign("=", 1), sign("=", 2))
	wantWords(t, "a=b==c", name("a", 1), sign("=", 1), name("b", 1), sign("==", 1), name("c", 1))
	wantWords(t, "<==", sign("<", 1), sign("==", 1))
	wantWords(t, "lets let s", name("lets", 1), sign("let", 1), name("s", 1))
	wantWords(t, "inx in x", name("inx", 1), sign("in", 1), name("x", 1))
	wantWords(t, "if1 if 1", name("if1", 1), sign("if", 1), number(1, 1))
	wantWords(t, "ifelse", name("ifelse", 1))
	wantWords(t, "12ab", number(12, 1), name("ab", 1))
	wantWords(t, "1in2", number(1, 1), name("in2", 1))
	wantWords(t, "-1", sign("-", 1), number(1, 1))
}

func TestLexEdgesOfNamesAndNumbers(t *testing.T) {
	wantWords(t, "abcdefgh", name("abcdefgh", 1))
	wantWords(t, "a1234567;", name("a1234567", 1), sign(";", 1))
	wantNoWords(t, "abcdefghi", 1)
	wantNoWords(t, "a12345678", 1)
	wantNoWords(t, "returning", 1)
	wantNoWords(t, "a\n\nabcdefghi\n", 3)
	wantWords(t, "0", number(0, 1))
	wantWords(t, "007", number(7, 1))
	wantWords(t, "999999999", number(999999999, 1))
	wantWords(t, "000000000", number(0, 1))
	wantWords(t, "123456789a", number(123456789, 1), name("a", 1))
	wantNoWords(t, "1234567890", 1)
	wantNoWords(t, "0000000000", 1)
	wantNoWords(t, "1\n1234567890a", 2)
	wantNoWords(t, strings.Repeat("9", impl.MaxText), 1)
}

func TestLexEdgeOfMaxText(t *testing.T) {
	wantWords(t, strings.Repeat(" ", impl.MaxText))
	wantWords(t, strings.Repeat(" ", impl.MaxText-1)+"a", name("a", 1))
	wantWords(t, strings.Repeat("\n", impl.MaxText-1)+"a", name("a", impl.MaxText))
	if got, line := impl.Lex(strings.Repeat(";", impl.MaxText)); line != 0 || len(got) != impl.MaxText {
		t.Errorf("%d words, line %d", len(got), line)
	}
	for _, s := range []string{" ", "\n", ";", "!", "\x00", "=="} {
		wantNoWords(t, strings.Repeat(s, impl.MaxText+1), 1)
	}
	wantNoWords(t, "a\n\n!"+strings.Repeat(" ", impl.MaxText-3), 1)
}

func TestLexTellsLineOfFirstByteThatBeginsNoWord(t *testing.T) {
	wantNoWords(t, "!", 1)
	wantNoWords(t, "a\n B", 2)
	wantNoWords(t, "x\n\n@", 3)
	wantNoWords(t, "a ! b\n! !", 1)
	wantNoWords(t, "a;\n\nb;\tc;", 3)
	wantNoWords(t, "a\r\nb", 1)
	wantNoWords(t, "aB", 1)
	wantNoWords(t, "a\n\xc3\xa4", 2)
	wantNoWords(t, "a.b", 1)
}

func TestLexOfEachByte(t *testing.T) {
	const first = "abcdefghijklmnopqrstuvwxyz0123456789(){}[],;=<+-*& \n"
	for b := range 256 {
		s := string([]byte{byte(b)})
		want := 1
		if strings.Contains(first, s) {
			want = 0
		}
		if got, line := impl.Lex(s); line != want || want == 1 && len(got) != 0 {
			t.Errorf("Lex(%q) = %v, %d; want line %d", s, got, line, want)
		}
	}
}

var anyWord = regexp.MustCompile(`^(?:([a-z][a-z0-9]*)|([0-9]+)|(==|[(){}\[\],;=<+\-*&]))`)

// lexByPattern tells the same as Lex in another way.
func lexByPattern(s string) ([]impl.Token, int) {
	list, line := []impl.Token{}, 1
	for len(s) > 0 {
		if s[0] == ' ' || s[0] == '\n' {
			line += strings.Count(s[:1], "\n")
			s = s[1:]
			continue
		}
		m := anyWord.FindStringSubmatch(s)
		switch {
		case m == nil || len(m[1]) > 8 || len(m[2]) > 9:
			return nil, line
		case m[2] != "":
			n, _ := strconv.Atoi(m[2])
			list = append(list, number(n, line))
		case m[3] != "" || slices.Contains(words, m[1]):
			list = append(list, sign(m[0], line))
		default:
			list = append(list, name(m[1], line))
		}
		s = s[len(m[0]):]
	}
	return list, 0
}

func TestLexOfAllTextsOfFewParts(t *testing.T) {
	parts := []string{"a", "in", "7", "=", "(", " ", "\n", "!", "abcd", "1234"}
	texts := []string{""}
	for range 5 {
		var longer []string
		for _, s := range texts {
			want, at := lexByPattern(s)
			got, line := impl.Lex(s)
			if line != at || !slices.Equal(got, want) {
				t.Fatalf("Lex(%q) = %v, %d; want %v, %d", s, got, line, want, at)
			}
			for _, p := range parts {
				longer = append(longer, s+p)
			}
		}
		texts = longer
	}
}

func TestDecText(t *testing.T) {
	numbers := []int{0, 1, -1, 9, 10, -10, 100, -12, 999999, -999999, math.MaxInt64, math.MinInt64}
	texts := []string{"0", "1", "-1", "9", "10", "-10", "100", "-12", "999999", "-999999", "9223372036854775807", "-9223372036854775808"}
	for i, n := range numbers {
		if got := impl.DecText(n); got != texts[i] {
			t.Errorf("DecText(%d) = %q", n, got)
		}
	}
}

func TestReadIntEdgesAndWrongTexts(t *testing.T) {
	for s, want := range map[string]int{"0": 0, "7": 7, "-120": -120, "999999": 999999, "-999999": -999999} {
		if n, ok := impl.ReadInt(s); n != want || !ok {
			t.Errorf("ReadInt(%q) = %d, %t", s, n, ok)
		}
	}
	wrong := []string{
		"1000000", "-1000000", "", "-", "--1", "-0", "00", "07", "-07", "0000001", "+1", "+0", " 1", "1 ", "1\n", "1 2",
		"1.0", "1e3", "0x1", "1_0", "a", "\xd9\xa3", "1\x00", "9223372036854775807", "-9223372036854775808",
		"9223372036854775808", "18446744073709551617", strings.Repeat("9", 10000), strings.Repeat("0", 10000),
	}
	for _, s := range wrong {
		if n, ok := impl.ReadInt(s); n != 0 || ok {
			t.Errorf("ReadInt(%q) = %d, %t", s, n, ok)
		}
	}
}

func TestWordsBetweenBlanks(t *testing.T) {
	cases := []struct {
		s    string
		want []string
	}{
		{"", []string{""}},
		{" ", []string{"", ""}},
		{"a", []string{"a"}},
		{"a b", []string{"a", "b"}},
		{"a  b", []string{"a", "", "b"}},
		{" a ", []string{"", "a", ""}},
		{"a\nb\tc d", []string{"a\nb\tc", "d"}},
		{"\xff \x00", []string{"\xff", "\x00"}},
	}
	for _, c := range cases {
		if got := impl.Words(c.s); !slices.Equal(got, c.want) {
			t.Errorf("Words(%q) = %q; want %q", c.s, got, c.want)
		}
	}
	if got := len(impl.Words(strings.Repeat(" ", 10000))); got != 10001 {
		t.Errorf("%d parts of 10000 blanks", got)
	}
}

// within tells whether a piece lies in the memory of s.
func within(piece string, s string) bool {
	if len(piece) == 0 || len(s) == 0 {
		return false
	}
	begin := uintptr(unsafe.Pointer(unsafe.StringData(s)))
	at := uintptr(unsafe.Pointer(unsafe.StringData(piece)))
	return begin <= at && at < begin+uintptr(len(s))
}

func TestAnswersOfWordsAreNewMemory(t *testing.T) {
	s := strings.Repeat("abc let == 12 ", 3)
	tokens, _ := impl.Lex(s)
	for _, x := range tokens {
		if within(x.Text, s) {
			t.Errorf("Lex: %v shares memory with the argument", x)
		}
	}
	parts := impl.Words(s)
	for _, x := range parts {
		if within(x, s) {
			t.Errorf("Words: %q shares memory with the argument", x)
		}
	}
	tokens[0], parts[0] = impl.Token{}, "changed"
	if again, _ := impl.Lex(s); again[0] != name("abc", 1) {
		t.Error("Lex keeps a list that it answered")
	}
	if again := impl.Words(s); again[0] != "abc" {
		t.Error("Words keeps a list that it answered")
	}
}
