package lex

import (
	"math"
	"math/rand"
	"reflect"
	"strconv"
	"strings"
	"testing"

	"dayshift/api"
)

func name(at int, text string) Token { return Token{Kind: Name, Text: text, At: at} }

func num(at int, text string, n int64) Token { return Token{Kind: Num, Text: text, N: n, At: at} }

func clock(at int, text string, n int64) Token { return Token{Kind: Time, Text: text, N: n, At: at} }

func signAt(at int, text string) Token { return Token{Kind: Sign, Text: text, At: at} }

// same tells whether two lists have the same words; an empty one may be nil.
func same(a, b []Token) bool {
	return len(a) == 0 && len(b) == 0 || reflect.DeepEqual(a, b)
}

func checkWords(t *testing.T, s string, want ...Token) {
	t.Helper()
	if l, at, e := Tokens(s); !same(l, want) || at != 0 || e != api.OK {
		t.Errorf("Tokens(%q) = %+v %d %d, not %+v", s, l, at, e, want)
	}
}

func checkFault(t *testing.T, s string, want int) {
	t.Helper()
	if l, at, e := Tokens(s); len(l) != 0 || at != want || e != api.ErrSyntax {
		t.Errorf("Tokens(%q) = %+v %d %d, not at %d", s, l, at, e, want)
	}
}

func TestWordsOfSources(t *testing.T) { // P7.1
	checkWords(t, "job A1 { prio 7; } # x", name(0, "job"), name(4, "a1"), signAt(7, "{"), name(9, "prio"), num(14, "7", 7), signAt(15, ";"), signAt(17, "}"))
	checkWords(t, "window 22:30", name(0, "window"), clock(7, "22:30", 1350))
	checkWords(t, "22:30,x", clock(0, "22:30", 1350), signAt(5, ","), name(6, "x"))
	checkWords(t, "{}();,=+-.", signAt(0, "{"), signAt(1, "}"), signAt(2, "("), signAt(3, ")"), signAt(4, ";"), signAt(5, ","), signAt(6, "="), signAt(7, "+"), signAt(8, "-"), signAt(9, "."))
	checkWords(t, "a.b+c-1", name(0, "a"), signAt(1, "."), name(2, "b"), signAt(3, "+"), name(4, "c"), signAt(5, "-"), num(6, "1", 1))
	checkWords(t, "1.2(3)4=5", num(0, "1", 1), signAt(1, "."), num(2, "2", 2), signAt(3, "("), num(4, "3", 3), signAt(5, ")"), num(6, "4", 4), signAt(7, "="), num(8, "5", 5))
	checkWords(t, "12 34", num(0, "12", 12), num(3, "34", 34))
	checkWords(t, "12#:30", num(0, "12", 12))
}

func TestSourcesWithoutWords(t *testing.T) { // P7.1
	for _, s := range []string{"", " ", "\t\n\r ", "#", "# *:_\x00\xff 9a", "\n#a\n#b\n", "#\n"} {
		checkWords(t, s)
	}
}

func TestBlanksAndRemarks(t *testing.T) { // P7.1
	checkWords(t, " \ta\r\nb\t", name(2, "a"), name(5, "b"))
	checkWords(t, "a#b\nc", name(0, "a"), name(4, "c"))
	checkWords(t, "a # b # c\r d\n\ne", name(0, "a"), name(14, "e"))
	checkWords(t, "7# x\n8", num(0, "7", 7), num(5, "8", 8))
	checkWords(t, "#\xff\x00*\na", name(5, "a"))
	checkWords(t, "12:30#", clock(0, "12:30", 750))
	checkFault(t, "# a\n*", 4)
	checkFault(t, "a\vb", 1)
	checkFault(t, "a\fb", 1)
	checkFault(t, "a\u00a0b", 1)
}

func TestEachByte(t *testing.T) { // P7.1
	for c := range 256 {
		b := byte(c)
		s := "ab " + string([]byte{b})
		switch {
		case strings.IndexByte(" \t\n\r#", b) >= 0:
			checkWords(t, s, name(0, "ab"))
		case b >= 'a' && b <= 'z':
			checkWords(t, s, name(0, "ab"), name(3, string(rune(b))))
		case b >= 'A' && b <= 'Z':
			checkWords(t, s, name(0, "ab"), name(3, string(rune(b+32))))
		case b >= '0' && b <= '9':
			checkWords(t, s, name(0, "ab"), num(3, string(rune(b)), int64(b-48)))
		case strings.IndexByte("{}();,=+-.", b) >= 0:
			checkWords(t, s, name(0, "ab"), signAt(3, string(rune(b))))
		default:
			checkFault(t, s, 3)
		}
	}
}

func TestNames(t *testing.T) { // P7.1
	long := strings.Repeat("aB_9", 5)
	checkWords(t, long, name(0, "ab_9ab_9ab_9ab_9ab_9"))
	checkWords(t, "- "+long+";", signAt(0, "-"), name(2, "ab_9ab_9ab_9ab_9ab_9"), signAt(22, ";"))
	checkWords(t, "a", name(0, "a"))
	checkWords(t, "Z__", name(0, "z__"))
	checkWords(t, "a12", name(0, "a12"))
	for _, more := range []string{"a", "Z", "0", "_"} {
		checkFault(t, long+more, 0)
		checkFault(t, "x, "+long+more, 3)
	}
	checkFault(t, strings.Repeat("a", api.MaxText), 0)
	checkFault(t, "_x", 0)
	checkFault(t, "a _", 2)
	checkFault(t, "a12:30", 3)
	checkFault(t, "aé", 1)
}

func TestNumbers(t *testing.T) { // P7.1
	checkWords(t, "0", num(0, "0", 0))
	checkWords(t, "007", num(0, "007", 7))
	checkWords(t, "999999999", num(0, "999999999", 999999999))
	checkWords(t, "000000000", num(0, "000000000", 0))
	checkWords(t, "123456789-", num(0, "123456789", 123456789), signAt(9, "-"))
	checkFault(t, "1234567890", 0)
	checkFault(t, "0000000000", 0)
	checkFault(t, "a 1234567890", 2)
	checkFault(t, strings.Repeat("9", api.MaxText), 0)
	for _, s := range []string{"9a", "9Z", "9_", "12a", "12_", "123456789x", "1e5", "0x1"} {
		checkFault(t, s, 0)
		checkFault(t, "x = "+s, 4)
	}
}

func TestTimes(t *testing.T) { // P7.1
	for h := range 100 {
		for m := range 100 {
			s := strconv.Itoa(100 + h)[1:] + ":" + strconv.Itoa(100 + m)[1:]
			if h < 24 && m < 60 {
				checkWords(t, s, clock(0, s, int64(h*60+m)))
				checkWords(t, ";"+s+"-", signAt(0, ";"), clock(1, s, int64(h*60+m)), signAt(6, "-"))
			} else {
				checkFault(t, s, 0)
				checkFault(t, "a "+s+";", 2)
			}
		}
	}
}

func TestTimesThatCanNotBe(t *testing.T) { // P7.1
	for _, s := range []string{"12:", "12:3", "12::", "12:3:", "12: 30", "12:3 0", "12:a0", "12:3a", "12:305", "12:30a", "12:30Z", "12:30_", "24:00", "12:60", "12:-1", "12:#", "12:\n30", "12:3é"} {
		checkFault(t, s, 0)
		checkFault(t, "x "+s, 2)
	}
	checkFault(t, "1:30", 1)
	checkFault(t, "123:30", 3)
	checkFault(t, "12 :30", 3)
	checkFault(t, ":30", 0)
	checkFault(t, "12:30:00", 5)
	checkFault(t, "1 2:30", 3)
	for c := range 256 {
		b := byte(c)
		s := "12:30" + string([]byte{b})
		switch {
		case strings.IndexByte(" \t\n\r#", b) >= 0:
			checkWords(t, s, clock(0, "12:30", 750))
		case strings.IndexByte("{}();,=+-.", b) >= 0:
			checkWords(t, s, clock(0, "12:30", 750), signAt(5, string(rune(b))))
		case b == '_' || b >= '0' && b <= '9' || b >= 'a' && b <= 'z' || b >= 'A' && b <= 'Z':
			checkFault(t, s, 0)
		default:
			checkFault(t, s, 5)
		}
	}
}

func TestTheFirstFaultIsTold(t *testing.T) { // P7.1
	checkFault(t, "a * 9a", 2)
	checkFault(t, "a 9a *", 2)
	checkFault(t, "12:60 *", 0)
	checkFault(t, "a\n\n b 12:30x _", 6)
	checkFault(t, "# *\n*", 4)
}

func TestSourcesThatAreTooLong(t *testing.T) { // P7.1
	full := strings.Repeat("a ", api.MaxText/2)
	if l, at, e := Tokens(full); len(l) != api.MaxText/2 || at != 0 || e != api.OK {
		t.Error("at the limit", len(l), at, e)
	}
	if l, _, e := Tokens(strings.Repeat(";", api.MaxText)); len(l) != api.MaxText || e != api.OK {
		t.Error("at the limit", len(l), e)
	}
	checkFault(t, strings.Repeat(" ", api.MaxText-1)+"*", api.MaxText-1)
	for _, s := range []string{full + " ", strings.Repeat("*", api.MaxText+1), strings.Repeat(" ", api.MaxText+1), strings.Repeat("#", 3*api.MaxText)} {
		if l, at, e := Tokens(s); len(l) != 0 || at != 0 || e != api.ErrSize {
			t.Error("beyond the limit", len(l), at, e)
		}
	}
}

func TestJoin(t *testing.T) { // P7.2
	words, _, _ := Tokens("job A1{prio 7;}# x")
	odd := []Token{{}, {Text: "\xff \n"}, {Kind: -1, Text: "B", N: 9, At: -9}, {}}
	for _, x := range []struct {
		l    []Token
		want string
	}{{nil, ""}, {[]Token{}, ""}, {words[:1], "job"}, {words, "job a1 { prio 7 ; }"}, {odd[:1], ""}, {odd, " \xff \n B "}} {
		if s := Join(x.l); s != x.want {
			t.Errorf("Join(%+v) = %q", x.l, s)
		}
	}
}

func TestFold(t *testing.T) { // P7.2
	for s, want := range map[string]string{"": "", "AbZ[": "abz[", "@AZ[`az{": "@az[`az{", "ÄÉ\u212a": "ÄÉ\u212a", "\xff\x00A\xc3": "\xff\x00a\xc3", "J_9": "j_9"} {
		if got := Fold(s); got != want {
			t.Errorf("Fold(%q) = %q", s, got)
		}
	}
	for c := range 256 {
		want := c
		if c >= 65 && c <= 90 {
			want += 32
		}
		if got := Fold(string([]byte{byte(c)})); got != string([]byte{byte(want)}) {
			t.Errorf("Fold of %d = %q", c, got)
		}
	}
}

func TestPlace(t *testing.T) { // P7.2
	s := "ab\ncd\n\r\n\ne"
	places := [][2]int{{1, 1}, {1, 2}, {1, 3}, {2, 1}, {2, 2}, {2, 3}, {3, 1}, {3, 2}, {4, 1}, {5, 1}, {5, 2}}
	for at, want := range places {
		if l, c := Place(s, at); l != want[0] || c != want[1] {
			t.Error("Place", at, l, c)
		}
	}
	for _, at := range []int{-1, -2, math.MinInt} {
		if l, c := Place(s, at); l != 1 || c != 1 {
			t.Error("Place", at, l, c)
		}
	}
	for _, at := range []int{11, 12, math.MaxInt} {
		if l, c := Place(s, at); l != 5 || c != 2 {
			t.Error("Place", at, l, c)
		}
	}
	for _, at := range []int{math.MinInt, -1, 0, 1, math.MaxInt} {
		if l, c := Place("", at); l != 1 || c != 1 {
			t.Error("Place of nothing", at, l, c)
		}
	}
	long := strings.Repeat("é\n", api.MaxText)
	if l, c := Place(long, len(long)-1); l != api.MaxText || c != 3 {
		t.Error("Place of a text that is no source", l, c)
	}
}

// maker makes sources of pieces: of those that can be alone, or of all.
type maker struct{ *rand.Rand }

var rightPieces = []string{"a", "B_9", "job", "z", "7", "007", "123456789", "00:00", "23:59", "12:30", "{", "}", "(", ")", ";", ",", "=", "+", "-", ".", " ", "  ", "\n", "\t", "\r\n", "# x *\n", "#\n", "ABCDEFGHIJKLMNOPQRST"}

var wrongPieces = []string{"*", ":", "_", "\xff", "é", "\x00", "9a", "24:00", "12:3", "1:30", "1234567890", "abcdefghijklmnopqrstu", "#", "12:", "0", "5", "\v"}

func (m maker) source(wrong bool) string {
	pieces := rightPieces
	if wrong {
		pieces = append(append([]string(nil), pieces...), wrongPieces...)
	}
	var b strings.Builder
	for range m.Intn(12) {
		b.WriteString(pieces[m.Intn(len(pieces))])
		if m.Intn(3) > 0 {
			b.WriteByte(" \n"[m.Intn(2)])
		}
	}
	return b.String()
}

// withoutPlaces has the words with no places.
func withoutPlaces(l []Token) []Token {
	var to []Token
	for _, word := range l {
		word.At = 0
		to = append(to, word)
	}
	return to
}

func TestJoinedWordsAreTheSame(t *testing.T) { // P7.3
	seen := 0
	for seed := range int64(20000) {
		s := maker{rand.New(rand.NewSource(seed))}.source(seed%2 == 0)
		l, _, e := Tokens(s)
		if e != api.OK {
			continue
		}
		seen++
		again, _, e := Tokens(Join(l))
		if e != api.OK || !same(withoutPlaces(again), withoutPlaces(l)) {
			t.Fatalf("%q: %+v, not %+v", s, again, l)
		}
	}
	if seen < 5000 {
		t.Error("seen too seldom", seen)
	}
}

func TestWordsOfTwoSources(t *testing.T) { // P7.4
	for seed := range int64(20000) {
		m := maker{rand.New(rand.NewSource(seed))}
		a, b := m.source(seed%4 == 0), m.source(seed%4 == 1)
		first, at, e := Tokens(a)
		second, at2, e2 := Tokens(b)
		both, atBoth, eBoth := Tokens(a + "\n" + b)
		if e != api.OK {
			if atBoth != at || eBoth != e || len(both) != 0 {
				t.Fatalf("%q %q: %d %d", a, b, atBoth, eBoth)
			}
			continue
		}
		if e2 != api.OK {
			if atBoth != at2+len(a)+1 || eBoth != e2 || len(both) != 0 {
				t.Fatalf("%q %q: %d %d", a, b, atBoth, eBoth)
			}
			continue
		}
		for _, word := range second {
			word.At += len(a) + 1
			first = append(first, word)
		}
		if !same(both, first) || atBoth != 0 || eBoth != api.OK {
			t.Fatalf("%q %q: %+v", a, b, both)
		}
	}
}

func TestWordsAreNewMemory(t *testing.T) { // rules 4 and 5
	s := "a 7 12:30 ;"
	first, _, _ := Tokens(s)
	for i := range first {
		first[i] = Token{Text: "x"}
	}
	_ = append(first, Token{Text: "y"})
	checkWords(t, s, name(0, "a"), num(2, "7", 7), clock(4, "12:30", 750), signAt(10, ";"))
	l := []Token{name(0, "A"), name(1, "B")}
	Join(l)
	if !same(l, []Token{name(0, "A"), name(1, "B")}) {
		t.Error("changed", l)
	}
}
