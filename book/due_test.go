package book

import (
	"math"
	"math/rand"
	"slices"
	"strconv"
	"strings"
	"testing"

	"dayshift/api"
	"dayshift/cal"
	"dayshift/date"
	"dayshift/jdl"
)

func dayOf(t *testing.T, s string) int64 {
	t.Helper()
	day, e := date.Read(s)
	if e != api.OK {
		t.Fatal("no day", s)
	}
	return day
}

// dueDays has those of a span of days on which a job is due.
func dueDays(t *testing.T, b *Book, i int, from, to int64) []int64 {
	t.Helper()
	var l []int64
	for day := from; day <= to; day++ {
		is, e := b.Due(i, day)
		if e != api.OK {
			t.Fatal("Due", i, day, e)
		}
		if is {
			l = append(l, day)
		}
	}
	return l
}

func checkDue(t *testing.T, source string, want ...int64) {
	t.Helper()
	if l := dueDays(t, made(t, source), 0, 1, 31); !slices.Equal(l, want) {
		t.Error("due", source, l, want)
	}
}

func TestDue(t *testing.T) { // P10.2
	w := "calendar w = week(mon); calendar wk = week(mon, tue, wed, thu, fri); job a { "
	checkDue(t, w+"}")
	checkDue(t, w+"shift next wk; }")
	checkDue(t, w+"days w; }", 1, 8, 15, 22, 29)
	checkDue(t, w+"days not wk; }", 6, 7, 13, 14, 20, 21, 27, 28)
	checkDue(t, w+"days not wk; shift next wk; }", 8, 15, 22, 29)
	checkDue(t, w+"days not wk; shift prev wk; }", 5, 12, 19, 26)
	checkDue(t, w+"days not wk; shift skip wk; }")
	checkDue(t, w+"days month(5, 6, 8); shift skip wk; }", 5, 8)
	checkDue(t, w+"days month(-1); shift prev w; }", 29)
	checkDue(t, w+"days dates(00010101, 00010131); }", 1, 31)
}

// TestDaysThatMove: a day goes past others of the job, up to ten days, and no further.
func TestDaysThatMove(t *testing.T) { // P10.2
	h := "calendar free = dates(00010110, 00010121); job a { days "
	checkDue(t, h+"month(11, 12); shift next free; }", 21)
	checkDue(t, h+"month(10, 11, 12, 22); shift next free; }", 10, 21)
	checkDue(t, h+"month(11); shift next free; }", 21)
	checkDue(t, h+"month(20, 22); shift prev free; }", 10, 21)
	checkDue(t, h+"month(20, 19); shift prev free; }", 10)
	checkDue(t, h+"month(31); shift prev free; }", 21)
	checkDue(t, h+"month(9, 1, 11); shift skip free; }")
	checkDue(t, h+"month(9, 22); shift next free; }", 10)
	h = "calendar free = dates(00010110, 00010122); job a { days "
	checkDue(t, h+"month(11); shift next free; }")
	checkDue(t, h+"month(12); shift next free; }", 22)
	checkDue(t, h+"month(21); shift prev free; }")
	checkDue(t, h+"month(20); shift prev free; }", 10)
}

func TestDueAtTheEnds(t *testing.T) { // P10.2
	b := made(t, "calendar all = week(mon, tue, wed, thu, fri, sat, sun); calendar ends = dates(00010101, 99991231); calendar near = dates(00010103, 99991229); job a { days all; } job b { days near; shift prev ends; } job c { days near; shift next ends; } job d { days ends; shift next near; } job e { days ends; shift prev near; }")
	for _, x := range []struct {
		day  int64
		want []int
	}{{1, []int{0, 1}}, {3, []int{0, 3}}, {api.MaxDay, []int{0, 2}}, {api.MaxDay - 2, []int{0, 4}}, {2, []int{0}}, {api.MaxDay - 1, []int{0}}} {
		l, e := b.All(x.day)
		if e != api.OK || !slices.Equal(l, x.want) {
			t.Error("All", x.day, l, e, x.want)
		}
		for i := range b.Len() {
			if is, e := b.Due(i, x.day); e != api.OK || is != slices.Contains(x.want, i) {
				t.Error("Due", i, x.day, is, e)
			}
		}
	}
}

func TestDaysThatCanNotBe(t *testing.T) { // P10.2, P6
	b := made(t, "job a { days month(1); } job b { }")
	none := made(t, "")
	for _, day := range []int64{0, -1, api.MaxDay + 1, math.MaxInt64, math.MinInt64, 1 << 32} {
		for i := range 2 {
			if is, e := b.Due(i, day); is || e != api.ErrRange {
				t.Error("Due", i, day, is, e)
			}
		}
		if l, e := b.All(day); len(l) != 0 || e != api.ErrRange {
			t.Error("All", day, l, e)
		}
		if l, e := none.All(day); len(l) != 0 || e != api.ErrRange {
			t.Error("All without jobs", day, l, e)
		}
	}
}

func checkNext(t *testing.T, b *Book, i int, day, want int64, errno api.Errno) {
	t.Helper()
	if next, e := b.Next(i, day); next != want || e != errno {
		t.Error("Next", i, day, next, e, want, errno)
	}
}

func TestNext(t *testing.T) { // P10.2
	b := made(t, "calendar w = week(mon); job a { days w; } job b { } job c { days dates(00010501); } job d { days week(sun); shift next w; } job e { days dates(00010101, 99991231); }")
	for day := int64(0); day < 30; day++ {
		checkNext(t, b, 0, day, (day+6)/7*7+1, api.OK)
		checkNext(t, b, 1, day, 0, api.ErrNone)
		checkNext(t, b, 3, day, max((day+6)/7*7+1, 8), api.OK)
	}
	may := dayOf(t, "00010501")
	checkNext(t, b, 2, may-1, may, api.OK)
	checkNext(t, b, 2, may-100, may, api.OK)
	checkNext(t, b, 2, may-101, 0, api.ErrNone)
	checkNext(t, b, 2, 0, 0, api.ErrNone)
	checkNext(t, b, 2, may, 0, api.ErrNone)
	checkNext(t, b, 4, 0, 1, api.OK)
	checkNext(t, b, 4, 1, 0, api.ErrNone)
	checkNext(t, b, 4, api.MaxDay-100, api.MaxDay, api.OK)
	checkNext(t, b, 4, api.MaxDay-101, 0, api.ErrNone)
	checkNext(t, b, 4, api.MaxDay-1, api.MaxDay, api.OK)
	for i := range 5 {
		checkNext(t, b, i, api.MaxDay, 0, api.ErrNone)
		for _, day := range []int64{-1, -100, api.MaxDay + 1, math.MaxInt64, math.MinInt64, math.MaxInt64 - 50} {
			checkNext(t, b, i, day, 0, api.ErrRange)
		}
	}
}

// A source by chance, that can be.

type maker struct{ *rand.Rand }

func (m maker) oneOf(l ...string) string { return l[m.Intn(len(l))] }

// days has words of days, with calendars c0 on up to one.
func (m maker) days(deep, cals int) string {
	kind := m.Intn(8)
	if deep == 0 {
		kind = m.Intn(4)
	}
	k := m.oneOf("", "-") + strconv.Itoa(1+m.Intn(28))
	switch {
	case kind == 0:
		return "week(" + m.oneOf("mon", "tue, fri", "sat, sun", "mon, tue, wed, thu, fri") + ")"
	case kind == 1:
		return "month(" + k + ", " + strconv.Itoa(1+m.Intn(28)) + ")"
	case kind == 2:
		return "dates(202401" + strconv.Itoa(10+m.Intn(22)) + ", 202402" + strconv.Itoa(10+m.Intn(20)) + ")"
	case kind == 3:
		return m.oneOf("nth(mon, 1)", "nth(fri, -1)", "fiscal(445, 1)", "fiscal(544, 12)", "dates()")
	case kind == 4 && cals > 0:
		return "c" + strconv.Itoa(m.Intn(cals))
	case kind == 5:
		return "not " + m.days(deep-1, cals)
	case kind == 6:
		return "work(" + k + ", wk)"
	}
	return "(" + m.days(deep-1, cals) + m.oneOf(" and ", " or ") + m.days(deep-1, cals) + ")"
}

func (m maker) source() string {
	var b strings.Builder
	b.WriteString("calendar wk = week(mon, tue, wed, thu, fri) and not dates(20240101, 20240212, 20240213);\n")
	for i := range 3 {
		b.WriteString("calendar c" + strconv.Itoa(i) + " = " + m.days(2, i) + ";\n")
	}
	for i := range 3 + m.Intn(4) {
		b.WriteString("job j" + strconv.Itoa(i) + " {")
		if m.Intn(8) > 0 {
			b.WriteString(" days " + m.days(2, 3) + ";")
		}
		if m.Intn(3) > 0 {
			work := m.oneOf("wk", "wk", m.days(2, 3))
			b.WriteString(" shift " + m.oneOf("next", "prev", "skip") + " " + work + ";")
		}
		b.WriteString(" }\n")
	}
	return b.String()
}

// modelDue moves each day that is near by itself.
func modelDue(x jdl.Source, j jdl.Job, day int64) bool {
	has := func(n cal.Node, day int64) bool {
		is, _ := cal.In(x.Cals, n, day)
		return is
	}
	if j.Days.Op == 0 {
		return false
	}
	for from := day - 15; from <= day+15; from++ {
		if !has(j.Days, from) {
			continue
		}
		if !j.Shift && from == day {
			return true
		}
		to, steps := from, 0
		for j.Shift && !has(j.Work, to) && steps <= 10 {
			to += int64(j.Dir)
			steps++
		}
		if j.Shift && has(j.Work, to) && steps <= 10 && to == day {
			return true
		}
	}
	return false
}

const firstDay, lastDay = 738886, 738960 // of January, 2024, and a while

// TestAnyBooks holds Due, All and Next of books by chance against days that are moved one by one.
func TestAnyBooks(t *testing.T) { // P10.2, P10.3, P10.4, P4
	count := [3]int{}
	for seed := range int64(120) {
		m := maker{rand.New(rand.NewSource(seed))}
		source := m.source()
		b := made(t, source)
		same := made(t, b.Text())
		x, _, _ := jdl.Parse(source)
		for i, j := range x.Jobs {
			days := dueDays(t, b, i, firstDay, lastDay)
			if !slices.Equal(days, dueDays(t, same, i, firstDay, lastDay)) {
				t.Fatal("of its Text", i, source)
			}
			for day := int64(firstDay); day <= lastDay; day++ {
				if slices.Contains(days, day) != modelDue(x, j, day) {
					t.Fatal("Due", i, day, days, source)
				}
			}
			checkWork(t, x, j, days)
			checkNexts(t, b, i, days)
			if j.Shift {
				count[j.Dir+1] += len(days)
			}
		}
		checkAlls(t, b)
	}
	if min(count[0], count[1], count[2]) < 200 {
		t.Error("too few days", count)
	}
}

// checkWork holds that what is moved is on workdays, and with skip just those that are days of the job.
func checkWork(t *testing.T, x jdl.Source, j jdl.Job, days []int64) {
	t.Helper()
	for day := int64(firstDay); j.Shift && day <= lastDay; day++ {
		due := slices.Contains(days, day)
		works, _ := cal.In(x.Cals, j.Work, day)
		is, _ := cal.In(x.Cals, j.Days, day)
		if due && !works || j.Dir == 0 && due != (works && is) {
			t.Fatal("not of the workdays", j, day)
		}
	}
}

func checkNexts(t *testing.T, b *Book, i int, days []int64) {
	t.Helper()
	for day := int64(firstDay - 1); day <= lastDay; day++ {
		at := slices.IndexFunc(days, func(d int64) bool { return d > day })
		next, e := b.Next(i, day)
		switch {
		case at >= 0 && (next != days[at] || e != api.OK):
			t.Fatal("Next", i, day, next, e, days)
		case at < 0 && e == api.OK && (next <= lastDay || next > day+100):
			t.Fatal("Next", i, day, next, e, days)
		case at < 0 && e != api.OK && (e != api.ErrNone || next != 0):
			t.Fatal("Next", i, day, next, e, days)
		}
	}
}

func checkAlls(t *testing.T, b *Book) {
	t.Helper()
	for day := int64(firstDay); day <= lastDay; day++ {
		var want []int
		for i := range b.Len() {
			if is, _ := b.Due(i, day); is {
				want = append(want, i)
			}
		}
		if l, e := b.All(day); e != api.OK || !slices.Equal(l, want) {
			t.Fatal("All", day, l, e, want)
		}
	}
}
