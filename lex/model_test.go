package lex

import (
	"math/rand"
	"regexp"
	"strconv"
	"strings"
	"testing"

	"dayshift/api"
)

// A second way to part a source: by patterns, each tried where a word begins.

var (
	blankPattern = regexp.MustCompile(`^(?:[ \t\n\r]|#[^\n]*)+`)
	namePattern  = regexp.MustCompile(`^[A-Za-z][A-Za-z0-9_]*`)
	timePattern  = regexp.MustCompile(`^(?:[01][0-9]|2[0-3]):[0-5][0-9]`)
	colonPattern = regexp.MustCompile(`^[0-9][0-9]:`)
	numPattern   = regexp.MustCompile(`^[0-9]+`)
	tailPattern  = regexp.MustCompile(`^[0-9A-Za-z_]`)
	signPattern  = regexp.MustCompile(`^[{}();,=+.-]`)
)

func modelWord(s string) (Token, bool) {
	if text := namePattern.FindString(s); text != "" {
		return Token{Kind: Name, Text: strings.ToLower(text)}, len(text) <= api.MaxName
	}
	if text := timePattern.FindString(s); text != "" {
		h, _ := strconv.Atoi(text[:2])
		m, _ := strconv.Atoi(text[3:])
		return Token{Kind: Time, Text: text, N: int64(h*60 + m)}, !tailPattern.MatchString(s[5:])
	}
	if text := numPattern.FindString(s); text != "" {
		n, _ := strconv.ParseInt(text, 10, 64)
		return Token{Kind: Num, Text: text, N: n}, len(text) <= 9 && !tailPattern.MatchString(s[len(text):]) && !colonPattern.MatchString(s)
	}
	text := signPattern.FindString(s)
	return Token{Kind: Sign, Text: text}, text != ""
}

func modelTokens(s string) ([]Token, int, api.Errno) {
	if len(s) > api.MaxText {
		return nil, 0, api.ErrSize
	}
	var l []Token
	at := 0
	for {
		at += len(blankPattern.FindString(s[at:]))
		if at == len(s) {
			return l, 0, api.OK
		}
		word, ok := modelWord(s[at:])
		if !ok {
			return nil, at, api.ErrSyntax
		}
		word.At = at
		l = append(l, word)
		at += len(word.Text)
	}
}

func checkModel(t *testing.T, s string) api.Errno {
	t.Helper()
	l, at, e := Tokens(s)
	want, wantAt, wantError := modelTokens(s)
	if !same(l, want) || at != wantAt || e != wantError {
		t.Fatalf("Tokens(%q) = %+v %d %d, not %+v %d %d", s, l, at, e, want, wantAt, wantError)
	}
	return e
}

func TestWordsOfAnySources(t *testing.T) { // P7.1, P6
	seen := map[api.Errno]int{}
	for seed := range int64(40000) {
		m := maker{rand.New(rand.NewSource(seed))}
		seen[checkModel(t, m.source(true))]++
	}
	if seen[api.OK] < 5000 || seen[api.ErrSyntax] < 5000 {
		t.Error("seen too seldom", seen)
	}
}

func TestWordsOfAnyBytes(t *testing.T) { // P7.1, P6
	const bytes = "aZ09_::  \n#;.-\x00\xff*23"
	m := rand.New(rand.NewSource(1))
	for range 60000 {
		b := make([]byte, m.Intn(9))
		for i := range b {
			b[i] = bytes[m.Intn(len(bytes))]
		}
		checkModel(t, string(b))
	}
	for range 2000 {
		b := make([]byte, m.Intn(api.MaxText+9))
		m.Read(b)
		checkModel(t, string(b))
	}
}
