package expr

import (
	"math/rand"
	"regexp"
	"slices"
	"strings"
	"testing"

	"dayshift/api"
	"dayshift/cond"
)

func anyRef(r *rand.Rand) string {
	return string(rune('a'+r.Intn(5))) + []string{"", ".odat", ".prev", ".any"}[r.Intn(4)]
}

// anyText is an expression in words, each of whose Ands and Ors stands in brackets.
func anyText(r *rand.Rand, deep int, nots bool) string {
	if deep == 0 || r.Intn(3) == 0 {
		return anyRef(r)
	}
	if nots && r.Intn(3) == 0 {
		return "not " + anyText(r, deep-1, nots)
	}
	var parts []string
	for range 2 + r.Intn(3) {
		parts = append(parts, anyText(r, deep-1, nots))
	}
	return "(" + strings.Join(parts, []string{" and ", " or "}[r.Intn(2)]) + ")"
}

// anyStore has some of the conditions that those texts speak of, for a day near to a day.
func anyStore(r *rand.Rand, day int64) *cond.Store {
	s := cond.New()
	for range r.Intn(12) {
		s.Add(of(string(rune('a'+r.Intn(5))), day-2+r.Int63n(4)))
	}
	return s
}

// parted has the name of a reference, its condition, and whether a list of conditions meets it.
func parted(ref string, l []api.Cond, day int64) (string, api.Cond, bool) {
	name, when, _ := strings.Cut(ref, ".")
	c := of(name, day)
	if when == "prev" {
		c.Day = dayAhead(day)
	}
	meets := func(d api.Cond) bool { return d == c || when == "any" && d.Name == name }
	return name, c, slices.ContainsFunc(l, meets)
}

var words = regexp.MustCompile(`[a-z]+(\.[a-z]+)?|[()]`)
var bracket = regexp.MustCompile(`\([01]( (and|or) [01])*\)`)

func isReference(word string) bool {
	return !slices.Contains([]string{"and", "or", "not", "(", ")"}, word)
}

// modelTrue writes 0 or 1 for each reference, and then for each bracket that has no other one in it, till but one is left.
func modelTrue(t *testing.T, text string, l []api.Cond, day int64) bool {
	t.Helper()
	digits := map[bool]string{false: "0", true: "1"}
	text = words.ReplaceAllStringFunc(text, func(word string) string {
		if !isReference(word) {
			return word
		}
		_, _, is := parted(word, l, day)
		return digits[is]
	})
	for len(text) > 1 {
		ahead := text
		text = strings.NewReplacer("not 0", "1", "not 1", "0").Replace(text)
		text = bracket.ReplaceAllStringFunc(text, func(b string) string {
			if strings.Contains(b, "and") {
				return digits[!strings.Contains(b, "0")]
			}
			return digits[strings.Contains(b, "1")]
		})
		if text == ahead {
			t.Fatal("no such text", text)
		}
	}
	return text == "1"
}

// modelMissing goes through the words: behind a not it leaves out a reference, or all to the end of a bracket.
func modelMissing(text string, l []api.Cond, day int64) []api.Cond {
	var missing []api.Cond
	deep, not := 0, 0 // how many brackets are open; how many were, and one more, when the not began
	begins := false   // the word ahead is a not that begins
	for _, word := range words.FindAllString(text, -1) {
		switch word {
		case "not":
			begins = not == 0
			continue
		case "(":
			deep++
			if begins {
				not = deep
			}
		case ")":
			if not == deep {
				not = 0
			}
			deep--
		case "and", "or":
		default:
			_, c, is := parted(word, l, day)
			if not == 0 && !begins && !is && !slices.Contains(missing, c) {
				missing = append(missing, c)
			}
		}
		begins = false
	}
	return missing
}

func TestAnyExpression(t *testing.T) { // P12.1, P12.2, P2
	trues, misses, nots := 0, 0, 0
	for seed := range int64(6000) {
		r := rand.New(rand.NewSource(seed))
		day := r.Int63n(8) - 2
		text := anyText(r, r.Intn(5), seed%3 != 0)
		e, s := in(t, text), anyStore(r, day)
		is := True(e, s, day)
		if is != modelTrue(t, text, s.List(), day) {
			t.Fatal("True", text, tells(s.List()), day, is)
		}
		l, want := Missing(e, s, day), modelMissing(text, s.List(), day)
		if !slices.Equal(l, want) {
			t.Fatal("Missing", text, tells(s.List()), day, tells(l), tells(want))
		}
		if Plain(e) == strings.Contains(text, "not") {
			t.Fatal("Plain", text)
		}
		if is {
			trues++
		}
		if len(l) > 0 {
			misses++
		}
		if !Plain(e) {
			nots++
		}
	}
	if min(trues, 6000-trues, misses, 6000-misses, nots) < 500 {
		t.Error("the expressions are of one kind", trues, misses, nots)
	}
}

func TestOneConditionMore(t *testing.T) { // P12.4
	for seed := range int64(2000) {
		r := rand.New(rand.NewSource(seed))
		day := 2 + r.Int63n(api.MaxDay-4)
		text := anyText(r, r.Intn(5), false)
		e, s := in(t, text), anyStore(r, day)
		for range 10 {
			is := True(e, s, day)
			s.Add(of(string(rune('a'+r.Intn(5))), day-2+r.Int63n(4)))
			if is && !True(e, s, day) {
				t.Fatal("one more makes it false", text, tells(s.List()), day)
			}
		}
	}
}

func TestAllThatIsMissing(t *testing.T) { // P12.4
	added := 0
	for seed := range int64(3000) {
		r := rand.New(rand.NewSource(seed))
		day := []int64{2, 3, 100, api.MaxDay - 1, api.MaxDay}[r.Intn(5)]
		text := anyText(r, r.Intn(5), false)
		e, s := in(t, text), anyStore(r, day)
		for _, c := range Missing(e, s, day) {
			if s.Has(c) {
				t.Fatal("it is there", text, c)
			}
			if errno := s.Add(c); errno != api.OK {
				t.Fatal("Add", c, errno)
			}
			added++
		}
		if !True(e, s, day) || len(Missing(e, s, day)) != 0 {
			t.Fatal("not true", text, tells(s.List()), day)
		}
	}
	if added < 3000 {
		t.Error("too little is missing", added)
	}
}

func TestNoRoomForAllThatIsMissing(t *testing.T) { // P12.4
	s := full(t)
	s.Drop(of("n", 1))
	e := in(t, "x and y")
	for i, c := range Missing(e, s, 5) {
		if errno := s.Add(c); (errno == api.OK) != (i == 0) {
			t.Error("Add", c, errno)
		}
	}
	if True(e, s, 5) || tells(Missing(e, s, 5)) != "y 5" {
		t.Error("true without room", tells(Missing(e, s, 5)))
	}
}

// modelApply does outcomes to a list of conditions, told as words.
func modelApply(text string, l []api.Cond, day int64) ([]api.Cond, api.Errno) {
	first := api.OK
	for word := range strings.SplitSeq(text, ", ") {
		name, c, _ := parted(word[1:], nil, day)
		if word[0] == '-' {
			l = slices.DeleteFunc(l, func(d api.Cond) bool { return d == c || strings.HasSuffix(word, ".any") && d.Name == name })
			continue
		}
		e := api.OK
		if c.Day < 1 || c.Day > api.MaxDay {
			e = api.ErrArg
		} else if !slices.Contains(l, c) && len(l) == api.MaxConds {
			e = api.ErrFull
		} else if !slices.Contains(l, c) {
			l = append(l, c)
		}
		if first == api.OK {
			first = e
		}
	}
	return l, first
}

func anyOutcomes(r *rand.Rand) string {
	var words []string
	for range 1 + r.Intn(api.MaxOuts) {
		ref := anyRef(r)
		if strings.HasSuffix(ref, ".any") || r.Intn(3) == 0 {
			words = append(words, "-"+ref)
		} else {
			words = append(words, "+"+ref)
		}
	}
	return strings.Join(words, ", ")
}

func TestAnyOutcomes(t *testing.T) { // P12.3, P12.5
	met := map[api.Errno]int{}
	for seed := range int64(4000) {
		r := rand.New(rand.NewSource(seed))
		day := []int64{0, 1, 2, 5, api.MaxDay, api.MaxDay + 1}[r.Intn(6)]
		s := anyStore(r, day)
		if r.Intn(3) > 0 {
			room := r.Intn(3)
			for i := int64(1); s.Len() < api.MaxConds-room; i++ {
				s.Add(of("n", i))
			}
		}
		text := anyOutcomes(r)
		want, first := modelApply(text, s.List(), day)
		e := Apply(out(t, text), s, day)
		if e != first || s.Len() != len(want) {
			t.Fatal("Apply", text, day, e, first, tells(s.List()), tells(want))
		}
		for _, c := range want {
			if !s.Has(c) {
				t.Fatal("Apply", text, day, "is not there", c)
			}
		}
		met[e]++
	}
	if len(met) != 3 || min(met[api.OK], met[api.ErrArg], met[api.ErrFull]) < 400 {
		t.Error("not all errors were met", met)
	}
}

func TestWhatIsAddedIsThere(t *testing.T) { // P12.5
	for seed := range int64(2000) {
		r := rand.New(rand.NewSource(seed))
		day := 2 + r.Int63n(api.MaxDay-1)
		text := anyOutcomes(r)
		s := anyStore(r, day)
		Apply(out(t, text), s, day)
		list := strings.Split(text, ", ")
		for i, word := range list {
			if word[0] == '-' {
				continue
			}
			name, c, _ := parted(word[1:], nil, day)
			goes := slices.ContainsFunc(list[i+1:], func(behind string) bool {
				_, d, _ := parted(behind[1:], nil, day)
				return behind[0] == '-' && (d == c || behind == "-"+name+".any")
			})
			if !goes && !s.Has(c) {
				t.Fatal("not there", text, day, c, tells(s.List()))
			}
		}
	}
}
