package impl

import (
	"strconv"
	"strings"
)

const (
	TokName   = 0
	TokNumber = 1
	TokSign   = 2
	MaxText   = 3000
)

type Token struct {
	Kind int
	Text string
	N    int
	Line int
}

const (
	maxName    = 8
	maxDigits  = 9
	maxReadInt = 999999
)

// The longest first, so that == is never taken for two of =.
var signLengths = [2]int{2, 1}

var signs = [15]string{"==", "(", ")", "{", "}", "[", "]", ",", ";", "=", "<", "+", "-", "*", "&"}

func IsWord(s string) bool {
	switch s {
	case "mem", "fn", "let", "ptr", "in", "if", "else", "while", "put", "get", "return":
		return true
	}
	return false
}

func NameOk(s string) bool {
	if len(s) < 1 || len(s) > maxName || !isLetter(s[0]) {
		return false
	}
	return nameLength(s) == len(s) && !IsWord(s)
}

func Lex(s string) ([]Token, int) {
	if len(s) > MaxText {
		return []Token{}, 1
	}
	// The texts of the answer are cut from a copy, so that they share nothing with the argument.
	rest := strings.Clone(s)
	list := []Token{}
	line := 1
	for len(rest) > 0 {
		if rest[0] == ' ' || rest[0] == '\n' {
			if rest[0] == '\n' {
				line++
			}
			rest = rest[1:]
			continue
		}
		word, length := firstWord(rest)
		if length == 0 {
			return []Token{}, line
		}
		word.Line = line
		list = append(list, word)
		rest = rest[length:]
	}
	return list, 0
}

// firstWord tells the word that s, which is not empty, begins with, and its length: 0 where there is none.
func firstWord(s string) (Token, int) {
	if isLetter(s[0]) {
		return firstName(s)
	}
	if isDigit(s[0]) {
		return firstNumber(s)
	}
	sign := firstSign(s)
	return Token{Kind: TokSign, Text: sign}, len(sign)
}

// firstName takes letters and digits together to their end: a name that is too long is no word, not even its beginning.
func firstName(s string) (Token, int) {
	length := nameLength(s)
	text := s[:length]
	if IsWord(text) {
		return Token{Kind: TokSign, Text: text}, length
	}
	if NameOk(text) {
		return Token{Kind: TokName, Text: text}, length
	}
	return Token{}, 0
}

func firstNumber(s string) (Token, int) {
	length, n := 0, 0
	for length < len(s) && isDigit(s[length]) {
		if length == maxDigits {
			return Token{}, 0
		}
		n = 10*n + int(s[length]-'0')
		length++
	}
	return Token{Kind: TokNumber, N: n}, length
}

func firstSign(s string) string {
	found := ""
search:
	for _, length := range signLengths {
		if length > len(s) {
			continue
		}
		for _, sign := range signs {
			if s[:length] == sign {
				found = sign
				break search
			}
		}
	}
	return found
}

// nameLength tells how many small letters and digits s begins with.
func nameLength(s string) int {
	length := 0
	for length < len(s) && (isLetter(s[length]) || isDigit(s[length])) {
		length++
	}
	return length
}

func isLetter(b byte) bool { return 'a' <= b && b <= 'z' }

func isDigit(b byte) bool { return '0' <= b && b <= '9' }

func DecText(n int) string { return strconv.Itoa(n) }

func ReadInt(s string) (int, bool) {
	n, ok := ReadNum(s)
	if !ok || n < -maxReadInt || n > maxReadInt {
		return 0, false
	}
	return n, true
}

func Words(s string) []string {
	// Split's parts lie in what it is given: a copy, so that they share nothing with the argument.
	return strings.Split(strings.Clone(s), " ")
}
