package lex

import (
	"strings"

	"dayshift/api"
	"dayshift/week"
)

const (
	maxDigits  = 9 // of a number
	hourDigits = 2
	timeLen    = len("00:00")
	blanks     = " \t\n\r"
	signs      = "{}();,=+-."
)

// What a byte can be. The zero value begins no word.
const (
	other = iota
	letter
	digit
	under
	sign
)

// shape is what a word's kind hangs on: its first byte, and whether just two digits stand ahead of a ":".
type shape struct {
	first int
	colon bool
}

// kindsOfShapes has the kind of each shape that a word can have.
func kindsOfShapes() map[shape]int {
	return map[shape]int{
		{first: letter}:             Name,
		{first: digit}:              Num,
		{first: digit, colon: true}: Time,
		{first: sign}:               Sign,
	}
}

func shapeOf(s string, at int) shape {
	end := digitsEnd(s, at)
	colon := end-at == hourDigits && end < len(s) && s[end] == ':'
	return shape{first: classOf(s[at]), colon: colon}
}

func classOf(c byte) int {
	switch {
	case c >= 'a' && c <= 'z', c >= 'A' && c <= 'Z':
		return letter
	case c >= '0' && c <= '9':
		return digit
	case c == '_':
		return under
	case strings.IndexByte(signs, c) >= 0:
		return sign
	}
	return other
}

// inName tells whether a byte can stand in a name behind its first one.
func inName(c byte) bool {
	class := classOf(c)
	return class == letter || class == digit || class == under
}

// wordAt tells where the next word begins, from a place on; len(s), if there is none.
func wordAt(s string, at int) int {
	for at < len(s) {
		switch {
		case s[at] == '#':
			at = lineEnd(s, at)
		case strings.IndexByte(blanks, s[at]) >= 0:
			at++
		default:
			return at
		}
	}
	return at
}

func lineEnd(s string, at int) int {
	if n := strings.IndexByte(s[at:], '\n'); n >= 0 {
		return at + n
	}
	return len(s)
}

// read tells the word of a kind that begins at a place; false, if it can not be.
func read(s string, at, kind int) (Token, bool) {
	switch kind {
	case Name:
		return readName(s, at)
	case Num:
		return readNumber(s, at)
	case Time:
		return readTime(s, at)
	case Sign:
		return Token{Kind: Sign, Text: s[at : at+1], At: at}, true
	}
	return Token{}, false
}

func readName(s string, at int) (Token, bool) {
	end := at
	for end < len(s) && inName(s[end]) {
		end++
	}
	if end-at > api.MaxName {
		return Token{}, false
	}
	return Token{Kind: Name, Text: Fold(s[at:end]), At: at}, true
}

func readNumber(s string, at int) (Token, bool) {
	end := digitsEnd(s, at)
	if end-at > maxDigits || end < len(s) && inName(s[end]) {
		return Token{}, false
	}
	n := int64(0)
	for i := at; i < end; i++ {
		n = n*10 + int64(s[i]-'0')
	}
	return Token{Kind: Num, Text: s[at:end], N: n, At: at}, true
}

func readTime(s string, at int) (Token, bool) {
	end := min(at+timeLen, len(s))
	minutes, e := week.Read(s[at:end])
	if e != api.OK || end < len(s) && inName(s[end]) {
		return Token{}, false
	}
	return Token{Kind: Time, Text: s[at:end], N: minutes, At: at}, true
}

// digitsEnd tells where the digits end that begin at a place.
func digitsEnd(s string, at int) int {
	for at < len(s) && classOf(s[at]) == digit {
		at++
	}
	return at
}
