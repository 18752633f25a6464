package plan

import (
	"math"
	"slices"
	"strconv"
	"strings"
	"testing"

	"dayshift/api"
	"dayshift/book"
	"dayshift/job"
)

func checkTurn(t *testing.T, p *Plan, b *book.Book, day, at int64, wantGone int, wantCame []int64, wantError api.Errno) {
	t.Helper()
	was := allOf(p)
	gone, came, e := p.Turn(b, day, at)
	if gone != wantGone || !slices.Equal(came, wantCame) || e != wantError {
		t.Error("Turn", day, at, gone, came, e, "not", wantGone, wantCame, wantError)
	}
	if e != api.OK || day <= was.day {
		unchanged(t, "Turn", p, was)
	} else if p.Day() != day {
		t.Error("Day", p.Day(), "not", day)
	}
}

// shop has a job of Mondays that waits for a day, one of each day, and one of no day.
func shop(t *testing.T) *book.Book {
	t.Helper()
	return made(t, "calendar w = week(mon); job a { days w; wait 1; } job b { days w or not w; } job c { wait 99; }")
}

// busy is a book of so many jobs of each day.
func busy(t *testing.T, jobs int) *book.Book {
	t.Helper()
	var s strings.Builder
	s.WriteString("calendar w = week(mon, tue, wed, thu, fri, sat, sun); ")
	for i := range jobs {
		s.WriteString("job j" + strconv.Itoa(i) + " { days w; wait 1; } ")
	}
	return made(t, s.String())
}

func TestExample(t *testing.T) { // P18.2
	b := made(t, "calendar w = week(mon); job a { days w; wait 1; }")
	p := New()
	checkTurn(t, p, b, 1, 1440, 0, []int64{1}, api.OK)
	checkAll(t, p, []job.State{{Id: 1, Day: 1, At: 1440}}, 1, 2, 1)
	checkTurn(t, p, b, 1, 1440, 0, nil, api.OK)
	q := p.Copy()
	checkTurn(t, p, b, 3, 4320, 1, nil, api.OK)
	checkAll(t, p, nil, 3, 2, 1)
	checkTurn(t, q, b, 2, 2880, 0, nil, api.OK)
	checkAll(t, q, []job.State{{Id: 1, Day: 1, At: 1440}}, 2, 2, 1)
}

func TestTurnErrors(t *testing.T) { // P18.2, P6
	p := loaded(t, []job.State{{Id: 1, Day: 1, State: api.Good}, {Id: 2, Day: 1, Job: 2}}, 5, 7, 3)
	b := shop(t)
	for _, at := range append([]int64{0, api.MaxClock}, wrongClocks...) {
		for _, day := range append([]int64{1, 5, 6, api.MaxDay}, wrongDays...) {
			checkTurn(t, p, nil, day, at, 0, nil, api.ErrNil)
		}
		for _, day := range wrongDays {
			checkTurn(t, p, b, day, at, 0, nil, api.ErrRange)
		}
		for _, day := range []int64{1, 4, 5} {
			checkTurn(t, p, b, day, at, 0, nil, api.OK)
		}
	}
	for _, at := range wrongClocks {
		checkTurn(t, p, b, 6, at, 0, nil, api.ErrArg)
		checkTurn(t, p, b, api.MaxDay, at, 0, nil, api.ErrArg)
	}
	checkTurn(t, p, b, 8, api.MaxClock, 1, []int64{7, 8}, api.OK)
	checkTurn(t, p, b, api.MaxDay, 0, 3, []int64{9}, api.OK)
	checkTurn(t, p, b, api.MaxDay, -1, 0, nil, api.OK)
}

func TestTurnTakesAway(t *testing.T) { // P18.2
	b := shop(t)
	for _, x := range []struct {
		s    job.State
		goes bool
	}{
		{job.State{Job: 2, Day: 4, State: api.Good}, true},
		{job.State{Job: 2, Day: 5, State: api.Good}, false},
		{job.State{Job: 2, Day: 6, State: api.Good}, false},
		{job.State{Job: 2, Day: 4, State: api.Bad}, false},
		{job.State{Job: 2, Day: 4}, false},
		{job.State{Job: 2, Day: 4, Hold: true}, false},
		{job.State{Job: 2, Day: 4, Force: true}, false},
		{job.State{Job: 2, Day: 4, State: api.Run, Run: 1}, false},
		{job.State{Job: 0, Day: 4}, false},
		{job.State{Job: 0, Day: 4, State: api.Bad}, false},
		{job.State{Job: 0, Day: 4, State: api.Good}, true},
		{job.State{Job: 0, Day: 3}, true},
		{job.State{Job: 0, Day: 3, Hold: true}, true},
		{job.State{Job: 0, Day: 3, Force: true}, true},
		{job.State{Job: 0, Day: 3, State: api.Bad}, true},
		{job.State{Job: 0, Day: 3, State: api.Good}, true},
		{job.State{Job: 0, Day: 3, State: api.Run, Run: 1}, false},
		{job.State{Job: 1, Day: 4}, true},
		{job.State{Job: 1, Day: 5}, false},
		{job.State{Job: 1, Day: api.MaxDay}, false},
		{job.State{Job: 1, Day: 1, State: api.Run, Run: 1}, false},
		{job.State{Job: 3, Day: 5}, true},
		{job.State{Job: 3, Day: 9, State: api.Good}, true},
		{job.State{Job: 47, Day: 5, State: api.Bad}, true},
		{job.State{Job: 3, Day: 5, Hold: true}, true},
		{job.State{Job: 3, Day: 1, State: api.Run, Run: 1}, false},
		{job.State{Job: 47, Day: 9, State: api.Run, Run: 1}, false},
	} {
		x.s.Id = 6
		p := loaded(t, []job.State{x.s}, 0, 7, 2)
		gone, _, e := p.Turn(b, 5, 0)
		_, got := p.Get(6)
		if e != api.OK || x.goes && (gone != 1 || got != api.ErrNone) || !x.goes && (gone != 0 || got != api.OK) {
			t.Error("Turn", x.s, gone, e, got)
		}
	}
}

func TestTurnBrings(t *testing.T) { // P18.2
	b := made(t, "calendar w = week(mon); calendar wk = week(mon, tue, wed, thu, fri); job a { days w; wait 9; } job b { } job c { days month(6); shift next wk; wait 9; } job d { days w or wk; }")
	p := New()
	checkTurn(t, p, b, 1, 9, 0, []int64{1, 2}, api.OK)
	checkTurn(t, p, b, 6, 10, 1, nil, api.OK)
	checkTurn(t, p, b, 8, 11, 0, []int64{3, 4, 5}, api.OK)
	checkAll(t, p, []job.State{{Id: 1, Job: 0, Day: 1, At: 9}, {Id: 3, Job: 0, Day: 8, At: 11}, {Id: 4, Job: 2, Day: 8, At: 11}, {Id: 5, Job: 3, Day: 8, At: 11}}, 8, 6, 1)
}

func TestTurnBesideTickets(t *testing.T) { // P18.2, P18.4
	b := shop(t)
	for _, x := range []struct {
		there job.State
		gone  int
		came  []int64
	}{
		{job.State{Job: 0, Day: 8}, 0, []int64{5}},
		{job.State{Job: 0, Day: 8, State: api.Good}, 0, []int64{5}},
		{job.State{Job: 0, Day: 8, State: api.Bad}, 0, []int64{5}},
		{job.State{Job: 0, Day: 8, State: api.Run, Run: 1}, 0, []int64{5}},
		{job.State{Job: 0, Day: 7}, 0, []int64{5, 6}},
		{job.State{Job: 0, Day: 7, State: api.Run, Run: 1}, 0, []int64{5, 6}},
		{job.State{Job: 0, Day: 9}, 0, []int64{5, 6}},
		{job.State{Job: 2, Day: 8}, 0, []int64{5, 6}},
		{job.State{Job: 1, Day: 7}, 1, []int64{5, 6}},
		{job.State{Job: 3, Day: 8}, 1, []int64{5, 6}},
	} {
		x.there.Id = 4
		p := loaded(t, []job.State{x.there}, 7, 5, 2)
		checkTurn(t, p, b, 8, 0, x.gone, x.came, api.OK)
	}
}

func TestTurnOfOneThatIsFull(t *testing.T) { // P18.2
	b := busy(t, api.MaxJobs)
	p := New()
	checkTurn(t, p, b, 1, 0, 0, numbersFrom(1, 48), api.OK)
	checkTurn(t, p, b, 2, 0, 0, nil, api.ErrFull)
	checkTurn(t, p, b, 2, 0, 0, nil, api.ErrFull)
	checkTurn(t, p, b, 3, 0, 48, numbersFrom(49, 48), api.OK)
	for id := int64(49); id < 49+31; id++ {
		p.Drop(id)
	}
	checkTurn(t, p, b, 4, 0, 0, nil, api.ErrFull)
	checkDrop(t, p, 80, api.OK)
	checkTurn(t, p, b, 4, 0, 0, numbersFrom(97, 48), api.OK)
	checkTurn(t, p, b, 4, 0, 0, nil, api.OK)
	if p.Len() != api.MaxActive {
		t.Error("Len", p.Len())
	}
	checkTurn(t, p, made(t, "job a { wait 99; }"), 5, 0, 63, nil, api.OK)
}

func TestTurnThatBringsNoneIntoOneThatIsFull(t *testing.T) { // P18.2
	var l []job.State
	for i := range api.MaxActive {
		l = append(l, job.State{Id: int64(i + 1), Job: 2, Day: 1})
	}
	b := made(t, "calendar w = week(mon); job a { days w; } job b { } job c { wait 99; }")
	p := loaded(t, l, 1, 1<<31, 1<<31)
	checkTurn(t, p, b, 2, 0, 0, nil, api.OK)
	checkTurn(t, p, b, 8, 0, 0, nil, api.ErrFull)
	checkTurn(t, p, b, 9, 0, 0, nil, api.OK)
}

func TestTurnWithFewNumbersLeft(t *testing.T) { // P18.2, P18.5
	b := busy(t, 3)
	waits := job.State{Id: 5, Job: 0, Day: 1}
	for left := range int64(3) {
		p := loaded(t, []job.State{waits}, 1, 1<<31-left, 1)
		checkTurn(t, p, b, 9, 0, 0, nil, api.ErrFull)
		checkTurn(t, p, made(t, ""), 9, 0, 1, nil, api.OK)
	}
	p := loaded(t, []job.State{waits}, 1, 1<<31-3, 1)
	checkTurn(t, p, b, 9, 0, 1, []int64{lastNumber - 2, lastNumber - 1, lastNumber}, api.OK)
	checkTurn(t, p, b, 10, 0, 0, nil, api.ErrFull)
}

func TestTurnToOtherBooks(t *testing.T) { // P18.2
	p := New()
	checkTurn(t, p, busy(t, 5), 1, 0, 0, numbersFrom(1, 5), api.OK)
	checkSet(t, p, runs(5, 1), api.OK)
	checkTurn(t, p, busy(t, 2), 2, 0, 2, []int64{6, 7}, api.OK)
	checkTurn(t, p, &book.Book{}, 3, 0, 4, nil, api.OK)
	checkAll(t, p, []job.State{runs(5, 1)}, 3, 8, 1)
}

func numbersFrom(first int64, n int) []int64 {
	var l []int64
	for i := range n {
		l = append(l, first+int64(i))
	}
	return l
}

func TestTurnToTheLastDay(t *testing.T) { // P18.2, P18.4
	b := busy(t, 1)
	p := New()
	checkTurn(t, p, b, api.MaxDay, api.MaxClock, 0, []int64{1}, api.OK)
	checkAll(t, p, []job.State{{Id: 1, Day: api.MaxDay, At: api.MaxClock}}, api.MaxDay, 2, 1)
	for _, day := range []int64{1, api.MaxDay - 1, api.MaxDay} {
		checkTurn(t, p, b, day, math.MinInt64, 0, nil, api.OK)
	}
	checkTurn(t, p, b, api.MaxDay+1, 0, 0, nil, api.ErrRange)
}
