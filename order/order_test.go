package order

import (
	"math"
	"slices"
	"testing"

	"dayshift/api"
	"dayshift/book"
)

var wrongDays = []int64{0, -1, api.MaxDay + 1, -api.MaxDay, math.MinInt64, math.MinInt64 + 1, math.MaxInt64, math.MaxInt64 - 1}

var wrongJobs = []int{-1, 4, 5, math.MinInt, math.MaxInt}

func made(t *testing.T, source string) *book.Book {
	t.Helper()
	b, f, e := book.New(source)
	if e != api.OK {
		t.Fatalf("book.New(%q): %v %d", source, f, e)
	}
	return b
}

// shop has four jobs: two of Mondays, one of each day, and one of no day.
func shop(t *testing.T) *book.Book {
	t.Helper()
	return made(t, "calendar w = week(mon); job a { days w; wait 1; } job b { days w or not w; wait 99; } job c { days w; } job d { wait 3; }")
}

func tickets(l ...Ticket) []Ticket { return l }

// fresh asks for what a day brings, and that it can be told.
func fresh(t *testing.T, b *book.Book, day int64, have []Ticket) []Ticket {
	t.Helper()
	l, e := Fresh(b, day, have)
	if e != api.OK {
		t.Fatal("Fresh", day, have, e)
	}
	return l
}

func TestExample(t *testing.T) { // P16.1, P16.2
	b := made(t, "calendar w = week(mon); job a { days w; wait 1; }")
	l := fresh(t, b, 1, nil)
	if !slices.Equal(l, tickets(Ticket{0, 1})) {
		t.Error("Fresh", l)
	}
	if l := fresh(t, b, 1, l); len(l) != 0 {
		t.Error("Fresh", l)
	}
	checkOld(t, b, Ticket{0, 1}, 2, false, api.OK)
	checkOld(t, b, Ticket{0, 1}, 3, true, api.OK)
}

func TestFresh(t *testing.T) { // P16.1, P16.3
	b := shop(t)
	for _, x := range []struct {
		day        int64
		have, want []Ticket
	}{
		{1, nil, tickets(Ticket{0, 1}, Ticket{1, 1}, Ticket{2, 1})},
		{1, tickets(), tickets(Ticket{0, 1}, Ticket{1, 1}, Ticket{2, 1})},
		{2, nil, tickets(Ticket{1, 2})},
		{8, nil, tickets(Ticket{0, 8}, Ticket{1, 8}, Ticket{2, 8})},
		{api.MaxDay, nil, tickets(Ticket{1, api.MaxDay})},
		{1, tickets(Ticket{1, 1}), tickets(Ticket{0, 1}, Ticket{2, 1})},
		{1, tickets(Ticket{1, 1}, Ticket{1, 1}, Ticket{1, 1}), tickets(Ticket{0, 1}, Ticket{2, 1})},
		{1, tickets(Ticket{2, 1}, Ticket{0, 1}), tickets(Ticket{1, 1})},
		{1, tickets(Ticket{2, 1}, Ticket{0, 1}, Ticket{1, 1}), nil},
		{8, tickets(Ticket{0, 1}, Ticket{1, 7}, Ticket{2, 9}), tickets(Ticket{0, 8}, Ticket{1, 8}, Ticket{2, 8})},
		{2, tickets(Ticket{0, 2}, Ticket{3, 2}), tickets(Ticket{1, 2})},
		{2, tickets(Ticket{1, 2}), nil},
	} {
		if l := fresh(t, b, x.day, x.have); !slices.Equal(l, x.want) {
			t.Error("Fresh", x.day, x.have, l, "not", x.want)
		}
	}
}

func TestFreshOfDaysThatMove(t *testing.T) { // P16.1, P4
	b := made(t, "calendar wk = week(mon, tue, wed, thu, fri); job a { days month(6); shift next wk; } job b { days month(6); shift prev wk; } job c { days month(6); shift skip wk; } job d { days month(6); }")
	for day, want := range map[int64][]Ticket{5: tickets(Ticket{1, 5}), 6: tickets(Ticket{3, 6}), 7: nil, 8: tickets(Ticket{0, 8}), 37: tickets(Ticket{0, 37}, Ticket{1, 37}, Ticket{2, 37}, Ticket{3, 37})} {
		if l := fresh(t, b, day, nil); !slices.Equal(l, want) {
			t.Error("Fresh", day, l, "not", want)
		}
	}
}

func TestFreshBesideTicketsThatCanNotBe(t *testing.T) { // P16.1, P6
	b := shop(t)
	var have []Ticket
	for _, job := range append([]int{0, 1, 2}, wrongJobs...) {
		for _, day := range append([]int64{1, 7}, wrongDays...) {
			if job < 0 || job > 3 || day != 1 {
				have = append(have, Ticket{job, day}, Ticket{job, day})
			}
		}
	}
	if l := fresh(t, b, 1, have); !slices.Equal(l, tickets(Ticket{0, 1}, Ticket{1, 1}, Ticket{2, 1})) {
		t.Error("Fresh", l)
	}
	if l := fresh(t, b, 1, append(have, Ticket{0, 1}, Ticket{2, 1})); !slices.Equal(l, tickets(Ticket{1, 1})) {
		t.Error("Fresh", l)
	}
}

func TestFreshOfWrongArguments(t *testing.T) { // P16.1, P6
	have := tickets(Ticket{0, 1}, Ticket{-1, 0})
	for _, day := range append([]int64{1, api.MaxDay}, wrongDays...) {
		for _, l := range [][]Ticket{nil, tickets(), have} {
			if l, e := Fresh(nil, day, l); len(l) != 0 || e != api.ErrNil {
				t.Error("Fresh of no book", day, l, e)
			}
		}
	}
	for _, b := range []*book.Book{shop(t), made(t, ""), {}} {
		for _, day := range wrongDays {
			if l, e := Fresh(b, day, have); len(l) != 0 || e != api.ErrRange {
				t.Error("Fresh", day, l, e)
			}
		}
	}
	for _, b := range []*book.Book{made(t, ""), made(t, "job a { }"), {}} {
		if l := fresh(t, b, 1, have); len(l) != 0 {
			t.Error("Fresh of no jobs", l)
		}
	}
}

func checkOld(t *testing.T, b *book.Book, x Ticket, day int64, want bool, wantError api.Errno) {
	t.Helper()
	if old, e := Old(b, x, day); old != want || e != wantError {
		t.Error("Old", x, day, old, e, "not", want, wantError)
	}
}

func TestOld(t *testing.T) { // P16.2
	b := shop(t)
	for job, wait := range []int64{1, 99, 0, 3} {
		for _, of := range []int64{1, 2, 730179, api.MaxDay - 100, api.MaxDay - wait - 1} {
			checkOld(t, b, Ticket{job, of}, of, false, api.OK)
			checkOld(t, b, Ticket{job, of}, of+wait, false, api.OK)
			checkOld(t, b, Ticket{job, of}, of+wait+1, true, api.OK)
			checkOld(t, b, Ticket{job, of}, api.MaxDay, true, api.OK)
			checkOld(t, b, Ticket{job, of}, 1, false, api.OK)
		}
		checkOld(t, b, Ticket{job, api.MaxDay - wait}, api.MaxDay, false, api.OK)
		checkOld(t, b, Ticket{job, api.MaxDay}, api.MaxDay, false, api.OK)
		checkOld(t, b, Ticket{job, 1}, api.MaxDay, true, api.OK)
		checkOld(t, b, Ticket{job, api.MaxDay}, 1, false, api.OK)
	}
}

func TestOldOfWrongArguments(t *testing.T) { // P16.2, P6
	b := shop(t)
	days := append([]int64{1, 5, api.MaxDay}, wrongDays...)
	for _, day := range days {
		for _, of := range days {
			for _, job := range append([]int{0, 1, 3}, wrongJobs...) {
				checkOld(t, nil, Ticket{job, of}, day, false, api.ErrNil)
				checkOld(t, made(t, ""), Ticket{job, of}, day, false, api.ErrNone)
			}
			for _, job := range wrongJobs {
				checkOld(t, b, Ticket{job, of}, day, false, api.ErrNone)
			}
		}
		for _, wrong := range wrongDays {
			for job := range 4 {
				checkOld(t, b, Ticket{job, wrong}, day, false, api.ErrRange)
				checkOld(t, b, Ticket{job, day}, wrong, false, api.ErrRange)
			}
		}
	}
}

func TestKeep(t *testing.T) { // P16.2
	b := shop(t)
	have := tickets(Ticket{3, 1}, Ticket{0, 1}, Ticket{9, 1}, Ticket{2, 1}, Ticket{1, 1}, Ticket{0, 1}, Ticket{0, 0}, Ticket{-1, 1}, Ticket{0, 5}, Ticket{3, 1})
	for _, x := range []struct {
		day  int64
		want []Ticket
	}{
		{1, tickets(Ticket{3, 1}, Ticket{0, 1}, Ticket{2, 1}, Ticket{1, 1}, Ticket{0, 1}, Ticket{0, 5}, Ticket{3, 1})},
		{2, tickets(Ticket{3, 1}, Ticket{0, 1}, Ticket{1, 1}, Ticket{0, 1}, Ticket{0, 5}, Ticket{3, 1})},
		{3, tickets(Ticket{3, 1}, Ticket{1, 1}, Ticket{0, 5}, Ticket{3, 1})},
		{4, tickets(Ticket{3, 1}, Ticket{1, 1}, Ticket{0, 5}, Ticket{3, 1})},
		{5, tickets(Ticket{1, 1}, Ticket{0, 5})},
		{7, tickets(Ticket{1, 1})},
		{100, tickets(Ticket{1, 1})},
		{101, nil},
		{api.MaxDay, nil},
	} {
		if l := Keep(b, have, x.day); !slices.Equal(l, x.want) {
			t.Error("Keep", x.day, l, "not", x.want)
		}
	}
}

func TestKeepOfWrongArguments(t *testing.T) { // P16.2, P6
	have := tickets(Ticket{0, 1}, Ticket{1, 1})
	for _, day := range append([]int64{1, api.MaxDay}, wrongDays...) {
		if len(Keep(nil, have, day)) != 0 || len(Keep(nil, nil, day)) != 0 || len(Keep(made(t, ""), have, day)) != 0 || len(Keep(&book.Book{}, have, day)) != 0 {
			t.Error("Keep of no jobs", day)
		}
	}
	b := shop(t)
	for _, wrong := range wrongDays {
		if l := Keep(b, have, wrong); len(l) != 0 {
			t.Error("Keep", wrong, l)
		}
		if l := Keep(b, tickets(Ticket{0, wrong}, Ticket{1, 5}, Ticket{1, wrong}), 5); !slices.Equal(l, tickets(Ticket{1, 5})) {
			t.Error("Keep", wrong, l)
		}
	}
	for _, wrong := range wrongJobs {
		if l := Keep(b, tickets(Ticket{wrong, 5}, Ticket{1, 5}, Ticket{wrong, 5}), 5); !slices.Equal(l, tickets(Ticket{1, 5})) {
			t.Error("Keep", wrong, l)
		}
	}
	if len(Keep(b, nil, 1)) != 0 || len(Keep(b, tickets(), 1)) != 0 {
		t.Error("Keep of none")
	}
}

func TestSorted(t *testing.T) { // P16.2, P6
	jobs := []int{math.MinInt, -1, 0, 1, 9, 10, 47, math.MaxInt}
	days := []int64{math.MinInt64, -1, 0, 1, 2, 10, api.MaxDay, math.MaxInt64}
	var want, l []Ticket
	for _, day := range days {
		for _, job := range jobs {
			want = append(want, Ticket{job, day})
		}
	}
	for i := range 4 * len(want) {
		l = append(l, want[i*37%len(want)])
	}
	ahead := slices.Clone(l)
	if got := Sorted(l); !slices.Equal(got, want) {
		t.Error("Sorted", got)
	}
	if !slices.Equal(l, ahead) {
		t.Error("Sorted changes its list")
	}
	if l := Sorted(slices.Repeat(tickets(Ticket{3, 7}), 1000)); !slices.Equal(l, tickets(Ticket{3, 7})) {
		t.Error("Sorted of one", l)
	}
	if len(Sorted(nil)) != 0 || len(Sorted(tickets())) != 0 {
		t.Error("Sorted of none")
	}
}

// asked tells a list of each kind that is told of have.
func asked(t *testing.T, b *book.Book, have []Ticket) [][]Ticket {
	t.Helper()
	return [][]Ticket{fresh(t, b, 1, have), Keep(b, have, 8), Sorted(have)}
}

func TestListsAreTheirOwn(t *testing.T) { // rules 4 and 5
	b := shop(t)
	all := tickets(Ticket{1, 1}, Ticket{0, 8}, Ticket{2, 8}, Ticket{2, 9})
	have := all[:3]
	ahead := slices.Clone(all)
	told, others := asked(t, b, have), asked(t, b, have)
	var wants [][]Ticket
	for i, l := range told {
		if len(l) < 2 || !slices.Equal(l, others[i]) {
			t.Fatal("what is told", i, l, others[i])
		}
		wants = append(wants, slices.Clone(l))
	}
	for i, l := range told {
		l[0] = Ticket{7, 7}
		_ = append(l[:1], Ticket{8, 8})
		_ = append(l, Ticket{9, 9})
		if !slices.Equal(all, ahead) || !slices.Equal(others[i], wants[i]) {
			t.Error("the lists share memory", i, all, others[i])
		}
	}
	clear(have)
	for i, l := range others {
		if !slices.Equal(l, wants[i]) {
			t.Error("the list is kept", i, l)
		}
	}
}
