package expr

import (
	"math"
	"reflect"
	"slices"
	"strconv"
	"strings"
	"testing"

	"dayshift/api"
	"dayshift/cond"
	"dayshift/jdl"
)

func of(name string, day int64) api.Cond { return api.Cond{Name: name, Day: day} }

func stored(t *testing.T, l ...api.Cond) *cond.Store {
	t.Helper()
	s := cond.New()
	for _, c := range l {
		if e := s.Add(c); e != api.OK {
			t.Fatal("Add", c, e)
		}
	}
	return s
}

// full has as many conditions as there may be: those of the name n, from the day 1 on.
func full(t *testing.T) *cond.Store {
	t.Helper()
	s := cond.New()
	for i := range int64(api.MaxConds) {
		if e := s.Add(of("n", i+1)); e != api.OK {
			t.Fatal("Add", i, e)
		}
	}
	return s
}

func job(t *testing.T, parts string) jdl.Job {
	t.Helper()
	x, at, e := jdl.Parse("job j { " + parts + " }")
	if e != api.OK {
		t.Fatal("Parse", parts, at, e)
	}
	return x.Jobs[0]
}

// in is what a source says behind the word in; of nothing the None of a job that waits for nothing.
func in(t *testing.T, text string) jdl.Expr {
	t.Helper()
	if text == "" {
		return job(t, "").In
	}
	return job(t, "in "+text+";").In
}

func out(t *testing.T, text string) []jdl.Outcome {
	t.Helper()
	if text == "" {
		return job(t, "").Out
	}
	return job(t, "out "+text+";").Out
}

// tells writes conditions as words.
func tells(l []api.Cond) string {
	var words []string
	for _, c := range l {
		words = append(words, c.Name+" "+strconv.FormatInt(c.Day, 10))
	}
	return strings.Join(words, ", ")
}

func isTrue(t *testing.T, text string, s *cond.Store, day int64, want bool) {
	t.Helper()
	if True(in(t, text), s, day) != want {
		t.Errorf("True(%q, %q, %d) is not %v", text, tells(s.List()), day, want)
	}
}

func misses(t *testing.T, text string, s *cond.Store, day int64, want string) {
	t.Helper()
	if got := tells(Missing(in(t, text), s, day)); got != want {
		t.Errorf("Missing(%q, %q, %d): %q, not %q", text, tells(s.List()), day, got, want)
	}
}

// someDays has days that can be and that can not.
func someDays() []int64 {
	return []int64{math.MinInt64, math.MinInt64 + 1, -api.MaxDay, -1, 0, 1, 2, 3, 365, api.MaxDay - 1, api.MaxDay, api.MaxDay + 1, api.MaxDay + 2, api.MaxClock, math.MaxInt64 - 1, math.MaxInt64}
}

// dayAhead is what the chapter says of a reference of the day ahead.
func dayAhead(day int64) int64 {
	if day < 1 {
		return 0
	}
	return day - 1
}

func TestExample(t *testing.T) { // P12.1, P12.2
	isTrue(t, "x and not y.prev", stored(t, of("x", 5)), 5, true)
	isTrue(t, "x and not y.prev", stored(t, of("x", 5), of("y", 4)), 5, false)
	misses(t, "x or y", stored(t), 5, "x 5, y 5")
}

func TestTrueOfOne(t *testing.T) { // P12.1
	s := stored(t, of("x", 5), of("y", 4), of("z", 1), of("z", api.MaxDay))
	for day := int64(-2); day < 9; day++ {
		isTrue(t, "", s, day, true)
		isTrue(t, "x", s, day, day == 5)
		isTrue(t, "x.odat", s, day, day == 5)
		isTrue(t, "x.prev", s, day, day == 6)
		isTrue(t, "x.any", s, day, true)
		isTrue(t, "y", s, day, day == 4)
		isTrue(t, "y.prev", s, day, day == 5)
		isTrue(t, "z", s, day, day == 1)
		isTrue(t, "z.prev", s, day, day == 2)
		isTrue(t, "w.any", s, day, false)
		isTrue(t, "not w", s, day, true)
		isTrue(t, "not x", s, day, day != 5)
		isTrue(t, "not x.any", s, day, false)
		isTrue(t, "not not x", s, day, day == 5)
	}
	isTrue(t, "z", s, api.MaxDay, true)
	isTrue(t, "z", s, api.MaxDay+1, false)
	isTrue(t, "z.prev", s, api.MaxDay+1, true)
}

func TestTrueOfMany(t *testing.T) { // P12.1
	names := []string{"a", "b", "c"}
	for bits := range 8 {
		s := cond.New()
		var is [3]bool
		for i, name := range names {
			if is[i] = bits>>i&1 == 1; is[i] {
				s.Add(of(name, 7))
			}
		}
		a, b, c := is[0], is[1], is[2]
		isTrue(t, "a and b and c", s, 7, a && b && c)
		isTrue(t, "a or b or c", s, 7, a || b || c)
		isTrue(t, "a and b or c", s, 7, a && b || c)
		isTrue(t, "a and (b or c)", s, 7, a && (b || c))
		isTrue(t, "not a and b", s, 7, !a && b)
		isTrue(t, "not (a and b)", s, 7, !(a && b))
		isTrue(t, "not (a or b) or c", s, 7, !(a || b) || c)
		isTrue(t, "a and not (b and not c)", s, 7, a && !(b && !c))
	}
}

func TestDaysOfAnyKind(t *testing.T) { // P12.1, P12.2, P6
	s := stored(t, of("x", 5), of("x", 1), of("x", api.MaxDay))
	for _, day := range someDays() {
		isTrue(t, "", s, day, true)
		isTrue(t, "x", s, day, day == 1 || day == api.MaxDay)
		isTrue(t, "x.prev", s, day, day == 2 || day == api.MaxDay+1)
		isTrue(t, "x.any and not y.any", s, day, true)
		text := strconv.FormatInt(day, 10)
		ahead := strconv.FormatInt(dayAhead(day), 10)
		misses(t, "y", s, day, "y "+text)
		misses(t, "y.any", s, day, "y "+text)
		misses(t, "y.prev", s, day, "y "+ahead)
		if Plain(in(t, "x")) != true || Plain(in(t, "not x")) != false {
			t.Error("Plain")
		}
	}
	misses(t, "y.prev and y", s, 0, "y 0") // the day ahead of 0 is 0, too
	misses(t, "y and y.prev", s, 1, "y 1, y 0")
	misses(t, "y and y.prev", s, -5, "y -5, y 0")
}

func TestNoStore(t *testing.T) { // P12.1, P12.2, P12.3, P6
	for _, day := range someDays() {
		isTrue(t, "", nil, day, true)
		isTrue(t, "x", nil, day, false)
		isTrue(t, "x.any", nil, day, false)
		isTrue(t, "not x.prev", nil, day, true)
		isTrue(t, "x or not y", nil, day, true)
		misses(t, "", nil, day, "")
		misses(t, "not x", nil, day, "")
		for _, text := range []string{"", "+a", "-a", "-a.any", "+a, -b"} {
			if e := Apply(out(t, text), nil, day); e != api.ErrNil {
				t.Error("Apply", text, e)
			}
		}
	}
	misses(t, "x and y.prev and z.any", nil, 5, "x 5, y 4, z 5")
}

func TestMissing(t *testing.T) { // P12.2
	s := stored(t, of("x", 5), of("y", 4), of("z", 9))
	for text, want := range map[string]string{
		"":                                 "",
		"x":                                "",
		"y":                                "y 5",
		"y.prev":                           "",
		"x.prev":                           "x 4",
		"z.any":                            "",
		"z":                                "z 5",
		"z.any and z":                      "z 5",
		"w.any":                            "w 5",
		"w.any and w":                      "w 5",
		"w and w.any and w.odat":           "w 5",
		"w.prev and w.any and w":           "w 4, w 5",
		"not w":                            "",
		"not not w":                        "",
		"not (v and (w or u.any))":         "",
		"not w and w":                      "w 5",
		"w and not w":                      "w 5",
		"x and y and z":                    "y 5, z 5",
		"x or w":                           "w 5",
		"c or b or a":                      "c 5, b 5, a 5",
		"b and (a or b) and a.prev":        "b 5, a 5, a 4",
		"(a and b) or (b and c) or not d":  "a 5, b 5, c 5",
		"a and not (b or c) and (d or a)":  "a 5, d 5",
		"a and (b and (c and (d and e)))":  "a 5, b 5, c 5, d 5, e 5",
		"(((a and b) and c) and d.prev)":   "a 5, b 5, c 5, d 4",
		"x and y.prev and z.any and not w": "",
	} {
		misses(t, text, s, 5, want)
	}
}

func TestMissingIsItsOwn(t *testing.T) { // rule 4
	e, s := in(t, "x and y and z"), stored(t, of("z", 5))
	l, other := Missing(e, s, 5), Missing(e, s, 5)
	l[0] = of("other", 1)
	_ = append(l[:1], of("more", 1))
	_ = append(l, of("most", 1))
	if tells(other) != "x 5, y 5" || tells(Missing(e, s, 5)) != "x 5, y 5" || e.Kids[0].Name != "x" || tells(s.List()) != "z 5" {
		t.Error("the lists share memory", other, e)
	}
}

func TestPlain(t *testing.T) { // P12.1
	for text, want := range map[string]bool{
		"":                              true,
		"x":                             true,
		"x.any":                         true,
		"x and y or z.prev":             true,
		"(x or y) and (z or (v and w))": true,
		"not x":                         false,
		"not not x":                     false,
		"x and not y":                   false,
		"not x or y":                    false,
		"x and (y or (z and not w))":    false,
		"not (x and y)":                 false,
	} {
		if Plain(in(t, text)) != want {
			t.Errorf("Plain(%q) is not %v", text, want)
		}
	}
}

func TestDeepOnes(t *testing.T) { // P12.1, P12.2, P6
	s := stored(t, of("x", 5))
	for deep := range api.MaxDeep + 1 {
		nots := strings.Repeat("not ", deep)
		isTrue(t, nots+"x", s, 5, deep%2 == 0)
		isTrue(t, nots+"w", s, 5, deep%2 == 1)
		open := strings.Repeat("(w or v and ", deep)
		text := open + "u" + strings.Repeat(")", deep)
		isTrue(t, text, s, 5, false)
		if want := "w 5, v 5, u 5"; deep > 0 {
			misses(t, text, s, 5, want)
		}
		if Plain(in(t, nots+"x")) != (deep == 0) || !Plain(in(t, text)) {
			t.Error("Plain", deep)
		}
	}
}

func TestApply(t *testing.T) { // P12.3
	for text, want := range map[string]string{
		"":                                     "c 1, c 5, x 4, x 5",
		"+a":                                   "a 5, c 1, c 5, x 4, x 5",
		"+a.prev":                              "a 4, c 1, c 5, x 4, x 5",
		"+x":                                   "c 1, c 5, x 4, x 5",
		"-x":                                   "c 1, c 5, x 4",
		"-x.odat":                              "c 1, c 5, x 4",
		"-x.prev":                              "c 1, c 5, x 5",
		"-c.prev":                              "c 1, c 5, x 4, x 5",
		"-x.any":                               "c 1, c 5",
		"-c.any, -x.any":                       "",
		"-y, -y.prev, -y.any":                  "c 1, c 5, x 4, x 5",
		"+a, -a":                               "c 1, c 5, x 4, x 5",
		"-a, +a":                               "a 5, c 1, c 5, x 4, x 5",
		"+x.prev, -x.any, +x":                  "c 1, c 5, x 5",
		"+a, -x, +b.prev, -c.any, +c, -x.prev": "a 5, b 4, c 5",
		"+a, +b, +c, +d, +e, -a, -b, -c":       "c 1, d 5, e 5, x 4, x 5",
	} {
		s := stored(t, of("x", 4), of("x", 5), of("c", 1), of("c", 5))
		if e := Apply(out(t, text), s, 5); e != api.OK || tells(s.List()) != want {
			t.Errorf("Apply(%q): %d, %q, not %q", text, e, tells(s.List()), want)
		}
	}
}

func TestApplyOfDaysOfAnyKind(t *testing.T) { // P12.3, P6
	for _, day := range someDays() {
		isDay := day >= 1 && day <= api.MaxDay
		isPrev := day >= 2 && day <= api.MaxDay+1
		holds := func(text string, fits bool, want ...api.Cond) {
			t.Helper()
			s := stored(t, of("k", 3))
			e := Apply(out(t, text), s, day)
			if fits != (e == api.OK) || !fits && e != api.ErrArg {
				t.Error("Apply", text, day, e)
			}
			for _, c := range want {
				if c.Day < 1 || c.Day > api.MaxDay {
					continue
				}
				if !s.Drop(c) {
					t.Error("Apply", text, day, "is not there", c)
				}
			}
			if tells(s.List()) != "k 3" {
				t.Error("Apply", text, day, s.List())
			}
		}
		holds("+a", isDay, of("a", day))
		holds("+a.prev", isPrev, of("a", dayAhead(day)))
		holds("+a.prev, +b", isPrev && isDay, of("a", dayAhead(day)), of("b", day))
		holds("+b, +a.prev", isPrev && isDay, of("a", dayAhead(day)), of("b", day))
		holds("-a, -a.prev, -a.any", true)
		s := stored(t, of("k", 3))
		if e := Apply(out(t, "-k.any"), s, day); e != api.OK || s.Len() != 0 {
			t.Error("Apply", day, e, s.List())
		}
	}
}

// P12.3: the chapter names no day of one that is added of any day (and rule refuses it in a book): it is that of the day itself, as in Missing.
func TestApplyAddsOfAnyDay(t *testing.T) {
	s := stored(t, of("a", 3))
	if e := Apply(out(t, "+a.any"), s, 5); e != api.OK || tells(s.List()) != "a 3, a 5" {
		t.Error("Apply", e, s.List())
	}
}

func TestApplyGoesOnBehindErrors(t *testing.T) { // P12.3, P6
	s := stored(t, of("x", 1), of("y", 1))
	if e := Apply(out(t, "+a.prev, +b, -x, +c.prev, -y.any, +d"), s, 1); e != api.ErrArg || tells(s.List()) != "b 1, d 1" {
		t.Error("Apply", e, s.List())
	}
	s = full(t)
	if e := Apply(out(t, "+a, -n, +b, +n.prev, +c"), s, 1); e != api.ErrFull || s.Len() != api.MaxConds || s.Has(of("a", 1)) || !s.Has(of("b", 1)) || s.Has(of("n", 1)) || s.Has(of("c", 1)) {
		t.Error("Apply", e, s.List())
	}
}

func TestFirstErrorOfApply(t *testing.T) { // P12.3, P6
	for text, want := range map[string]api.Errno{
		"+n":                     api.OK, // it is there already
		"+a":                     api.ErrFull,
		"+a.prev":                api.ErrArg,
		"+a, +a.prev":            api.ErrFull,
		"+a.prev, +a":            api.ErrArg,
		"+n, +a, +n, +a.prev":    api.ErrFull,
		"-n, +a":                 api.OK,
		"-n, +a, +b":             api.ErrFull,
		"-n, +a, +b.prev, +b":    api.ErrArg,
		"-n.any, +a, +b, +c, +n": api.OK,
		"-a, -b.any, -c.prev":    api.OK,
	} {
		if e := Apply(out(t, text), full(t), 1); e != want {
			t.Error("Apply", text, e, want)
		}
	}
}

func TestNothingHandedInIsChanged(t *testing.T) { // rules 4 and 5
	e, again := in(t, "a and (b or not c.prev) and x.any"), in(t, "a and (b or not c.prev) and x.any")
	l, same := out(t, "+a, -b.any, +c.prev, -x"), out(t, "+a, -b.any, +c.prev, -x")
	s := stored(t, of("x", 5), of("c", 4))
	ahead := s.List()
	True(e, s, 5)
	Missing(e, s, 5)
	Plain(e)
	if !slices.Equal(s.List(), ahead) {
		t.Error("a question changed the store", s.List())
	}
	Apply(l, s, 5)
	if !reflect.DeepEqual(e, again) || !reflect.DeepEqual(l, same) {
		t.Error("changed", e, l)
	}
	l[0].Name, e.Kids[0].Name = "q", "q"
	if tells(s.List()) != "a 5, c 4" {
		t.Error("List", s.List())
	}
}

func TestExpressionsThatParseNeverTold(t *testing.T) { // P6
	kid := jdl.Expr{Op: jdl.Has, Name: "x"}
	for _, e := range []jdl.Expr{{Op: jdl.And}, {Op: jdl.Or}, {Op: jdl.Not}, {Op: -1}, {Op: 5, Kids: []jdl.Expr{kid}}, {Op: jdl.Not, Kids: []jdl.Expr{kid, kid}}, {Op: jdl.Has, When: 9}, {Op: jdl.Has, Kids: []jdl.Expr{{Op: jdl.Not}}}} {
		for _, s := range []*cond.Store{nil, cond.New(), full(t)} {
			True(e, s, 1)
			Missing(e, s, 1)
			Plain(e)
		}
	}
	Apply([]jdl.Outcome{{}, {Add: true}, {Add: true, When: 9}, {When: -1}}, cond.New(), 1)
	if e := Apply(nil, cond.New(), 1); e != api.OK {
		t.Error("Apply of none", e)
	}
}
