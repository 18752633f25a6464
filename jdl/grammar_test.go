package jdl

import (
	"reflect"
	"regexp"
	"strings"
	"testing"

	"dayshift/api"
	"dayshift/date"
	"dayshift/lex"
)

// A second way to tell the first word that can not stand there: the grammar as the document has it, and all ways to go on in it. DATE is a number that is a date, DAYS a name in days, COND one in a condition.
const grammarText = `
source = { item }
item   = "begin" TIME ";" | "keep" NUM ";" | "calendar" NAME "=" days ";" | "resource" NAME NUM ";" | "lock" NAME ";" | "job" NAME "{" { part } "}"
days   = both { "or" both }
both   = one { "and" one }
one    = "not" one | "(" days ")" | "week" "(" wd { "," wd } ")" | "dates" "(" [ DATE { "," DATE } ] ")" | "month" "(" int { "," int } ")" | "nth" "(" wd "," int ")" | "work" "(" int "," NAME ")" | "fiscal" "(" NUM "," NUM ")" | DAYS
wd     = "mon" | "tue" | "wed" | "thu" | "fri" | "sat" | "sun"
int    = [ "-" ] NUM
part   = "days" days ";" | "shift" ( "next" | "prev" | "skip" ) days ";" | "window" TIME TIME ";" | "in" cond ";" | "out" out { "," out } ";" | "need" NAME NUM ";" | "use" NAME ( "shared" | "exclusive" ) ";" | "prio" NUM ";" | "wait" NUM ";" | "every" NUM ";" | "runs" NUM ";" | "retry" NUM ";"
cond   = all { "or" all }
all    = each { "and" each }
each   = "not" each | "(" cond ")" | COND [ "." ( "odat" | "prev" | "any" ) ]
out    = ( "+" | "-" ) ref
ref    = NAME [ "." ( "odat" | "prev" | "any" ) ]
`

// form is a piece of the grammar: a word or a kind of words ("), a rule (r), pieces in a row (s), one of several (|), one or none (?), any number (*).
type form struct {
	kind byte
	text string
	kids []*form
}

type grammar map[string]*form

var formWord = regexp.MustCompile(`"[^"]*"|[A-Za-z]+|[][{}()|=]`)

func readGrammar() grammar {
	g := grammar{}
	for _, line := range strings.Split(strings.TrimSpace(grammarText), "\n") {
		words := formWord.FindAllString(line, -1)
		g[words[0]], _ = readForm(words[2:])
	}
	return g
}

// readForm reads pieces up to a closing bracket or the end, and tells what is left.
func readForm(words []string) (*form, []string) {
	rows := []*form{{kind: 's'}}
	for len(words) > 0 {
		w := words[0]
		words = words[1:]
		row := rows[len(rows)-1]
		var kid *form
		switch {
		case w == "|":
			rows = append(rows, &form{kind: 's'})
			continue
		case w == "{" || w == "[" || w == "(":
			var inner *form
			inner, words = readForm(words)
			kid = &form{kind: map[string]byte{"{": '*', "[": '?', "(": 's'}[w], kids: []*form{inner}}
		case w == "}" || w == "]" || w == ")":
			return &form{kind: '|', kids: rows}, words
		case w[0] == '"' || w == strings.ToUpper(w):
			kid = &form{kind: '"', text: strings.Trim(w, `"`)}
		default:
			kid = &form{kind: 'r', text: w}
		}
		row.kids = append(row.kids, kid)
	}
	return &form{kind: '|', kids: rows}, nil
}

// stack is pieces that are still to come.
type stack struct {
	top  *form
	rest *stack
}

// ways has all stacks to which one can come without a word: each with a word on top, or nil.
func (g grammar) ways(s *stack) []*stack {
	if s == nil {
		return []*stack{nil}
	}
	f := s.top
	switch f.kind {
	case 'r':
		return g.ways(&stack{g[f.text], s.rest})
	case 's':
		to := s.rest
		for i := len(f.kids) - 1; i >= 0; i-- {
			to = &stack{f.kids[i], to}
		}
		return g.ways(to)
	case '|':
		var l []*stack
		for _, kid := range f.kids {
			l = append(l, g.ways(&stack{kid, s.rest})...)
		}
		return l
	case '?':
		return append(g.ways(s.rest), g.ways(&stack{f.kids[0], s.rest})...)
	case '*':
		return append(g.ways(s.rest), g.ways(&stack{f.kids[0], s})...)
	}
	return []*stack{s}
}

var noDays = regexp.MustCompile(`^(not|and|or|week|dates|month|nth|work|fiscal)$`)

var noCond = regexp.MustCompile(`^(not|and|or)$`)

func fits(text string, w lex.Token) bool {
	switch text {
	case "NAME":
		return w.Kind == lex.Name
	case "DAYS":
		return w.Kind == lex.Name && !noDays.MatchString(w.Text)
	case "COND":
		return w.Kind == lex.Name && !noCond.MatchString(w.Text)
	case "NUM":
		return w.Kind == lex.Num
	case "DATE":
		_, e := date.Read(w.Text)
		return w.Kind == lex.Num && e == api.OK
	case "TIME":
		return w.Kind == lex.Time
	}
	return w.Text == text
}

// firstWrong tells the place of the first word that can not stand there; -1, if there is none.
func (g grammar) firstWrong(s string) int {
	words, _, _ := lex.Tokens(s)
	now := g.ways(&stack{g["source"], nil})
	for _, w := range words {
		var next []*stack
		for _, way := range now {
			if way != nil && fits(way.top.text, w) {
				next = append(next, g.ways(way.rest)...)
			}
		}
		if len(next) == 0 {
			return w.At
		}
		now = next
	}
	for _, way := range now {
		if way == nil {
			return -1
		}
	}
	return len(s)
}

// harmed has words with some of them gone, doubled, changed or moved.
func (m maker) harmed(words []string) []string {
	l := append([]string(nil), words...)
	others := append(strings.Fields(allWords), "{", "}", "(", ")", ";", ",", "=", "+", "-", ".", "7", "12:30", "20240329", "x")
	for range 1 + m.Intn(2) {
		if len(l) == 0 {
			return l
		}
		i, k := m.Intn(len(l)), m.Intn(len(l))
		switch m.Intn(5) {
		case 0:
			l = append(l[:i], l[i+1:]...)
		case 1:
			l = append(l[:i+1], l[i:]...)
		case 2:
			l[i] = others[m.Intn(len(others))]
		case 3:
			l[i], l[k] = l[k], l[i]
		case 4:
			l = l[:i]
		}
	}
	return l
}

func TestPlacesByTheGrammar(t *testing.T) { // P8.1, P6
	g := readGrammar()
	seen := map[api.Errno]int{}
	for seed := range int64(12000) {
		m := newMaker(seed)
		s := m.spaced(m.harmed(m.words(m.source())))
		if len(s) > api.MaxText {
			continue
		}
		if _, _, e := lex.Tokens(s); e != api.OK {
			t.Fatalf("no words: %q", s)
		}
		want := g.firstWrong(s)
		x, at, e := Parse(s)
		seen[e]++
		switch {
		case e == api.OK && at == 0 && want < 0:
		case e == api.ErrSyntax && at == want:
		case (e == api.ErrTwice || e == api.ErrFull || e == api.ErrDeep) && (want < 0 || at <= want):
		default:
			t.Fatalf("Parse(%q) = %d %d, not at %d", s, at, e, want)
		}
		if e != api.OK && !reflect.DeepEqual(x, Source{}) {
			t.Fatalf("Parse(%q) = %+v", s, x)
		}
	}
	if seen[api.OK] < 300 || seen[api.ErrSyntax] < 5000 || seen[api.ErrTwice] < 5 {
		t.Error("seen too seldom", seen)
	}
}

// TestSourcesThatEndInTheMiddle cuts a source behind each byte.
func TestSourcesThatEndInTheMiddle(t *testing.T) { // P8.1, P6
	g := readGrammar()
	for i := range len(wholeSource) + 1 {
		s := wholeSource[:i]
		want, wantError := 0, api.OK
		if _, at, e := lex.Tokens(s); e != api.OK {
			want, wantError = at, e
		} else if at := g.firstWrong(s); at >= 0 {
			want, wantError = at, api.ErrSyntax
		}
		if _, at, e := Parse(s); at != want || e != wantError {
			t.Errorf("Parse(%q) = %d %d, not %d %d", s, at, e, want, wantError)
		}
	}
}

func TestAnyBytes(t *testing.T) { // P6
	m := newMaker(1)
	for range 3000 {
		b := []byte(m.text(m.source()))
		for range 1 + m.Intn(3) {
			if len(b) > 0 {
				b[m.Intn(len(b))] = byte(m.Intn(256))
			}
		}
		if x, at, e := Parse(string(b)); e != api.OK && (!reflect.DeepEqual(x, Source{}) || at < 0 || at > len(b)) || e == api.OK && at != 0 {
			t.Fatalf("Parse(%q) = %+v %d %d", b, x, at, e)
		}
	}
}
