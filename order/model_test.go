package order

import (
	"math/rand"
	"slices"
	"strconv"
	"strings"
	"testing"

	"dayshift/api"
	"dayshift/book"
)

// anyBook has jobs of weekdays, some of them moved.
func anyBook(t *testing.T, r *rand.Rand) *book.Book {
	t.Helper()
	var s strings.Builder
	s.WriteString("calendar wk = week(mon, tue, wed, thu, fri); ")
	names := []string{"mon", "tue", "wed", "thu", "fri", "sat", "sun"}
	for i := range r.Intn(api.MaxJobs + 1) {
		s.WriteString("job j" + strconv.Itoa(i) + " { ")
		if r.Intn(5) > 0 {
			s.WriteString("days week(" + names[r.Intn(7)] + ", " + names[r.Intn(7)] + "); ")
			s.WriteString([]string{"", "", "shift next wk; ", "shift prev wk; ", "shift skip wk; "}[r.Intn(5)])
		}
		s.WriteString("wait " + strconv.Itoa(r.Intn(2)*r.Intn(12)) + "; } ")
	}
	return made(t, s.String())
}

// anyTickets has some that a book brought, some that nobody brought, and some that can not be.
func anyTickets(r *rand.Rand) []Ticket {
	var l []Ticket
	for range r.Intn(120) {
		x := Ticket{Job: r.Intn(50), Day: 1 + r.Int63n(20)}
		if r.Intn(20) == 0 {
			x = Ticket{Job: r.Intn(60) - 5, Day: r.Int63n(20) - 5}
		}
		l = append(l, x)
		if r.Intn(8) == 0 {
			l = append(l, l[r.Intn(len(l))])
		}
	}
	return l
}

// modelFresh asks job by job, and goes through all that is there for each one.
func modelFresh(b *book.Book, day int64, have []Ticket) []Ticket {
	var l []Ticket
	for i := range b.Len() {
		if is, _ := b.Due(i, day); is && !slices.Contains(have, Ticket{Job: i, Day: day}) {
			l = append(l, Ticket{Job: i, Day: day})
		}
	}
	return l
}

// modelKeep lets the days pass one by one, as often as a job may wait.
func modelKeep(b *book.Book, have []Ticket, day int64) []Ticket {
	var l []Ticket
	for _, x := range have {
		j, e := b.Job(x.Job)
		if e != api.OK || x.Day < 1 {
			continue
		}
		last := x.Day
		for range j.Wait {
			last++
		}
		if day <= last {
			l = append(l, x)
		}
	}
	return l
}

// modelSorted puts each ticket behind all that are less.
func modelSorted(l []Ticket) []Ticket {
	var sorted []Ticket
	for _, x := range l {
		i := 0
		for i < len(sorted) && (sorted[i].Day < x.Day || sorted[i].Day == x.Day && sorted[i].Job < x.Job) {
			i++
		}
		if i == len(sorted) || sorted[i] != x {
			sorted = slices.Insert(sorted, i, x)
		}
	}
	return sorted
}

func TestAnyTickets(t *testing.T) { // P16.1, P16.2
	r := rand.New(rand.NewSource(1))
	told, kept := 0, 0
	for range 1500 {
		b, have, day := anyBook(t, r), anyTickets(r), 1+r.Int63n(20)
		ahead := slices.Clone(have)
		l := fresh(t, b, day, have)
		if want := modelFresh(b, day, have); !slices.Equal(l, want) {
			t.Fatal("Fresh", day, have, l, "not", want)
		}
		told += len(l)
		l = Keep(b, have, day)
		if want := modelKeep(b, have, day); !slices.Equal(l, want) {
			t.Fatal("Keep", day, have, l, "not", want)
		}
		kept += len(l)
		if l, want := Sorted(have), modelSorted(have); !slices.Equal(l, want) {
			t.Fatal("Sorted", have, l, "not", want)
		}
		if !slices.Equal(have, ahead) {
			t.Fatal("a list is changed", have, ahead)
		}
	}
	if told < 1500 || kept < 1500 {
		t.Error("too few", told, kept)
	}
}

func TestFreshIsToldOnce(t *testing.T) { // P16.3, P4
	r := rand.New(rand.NewSource(2))
	for range 300 {
		b, have := anyBook(t, r), anyTickets(r)
		for day := int64(1); day <= 20; day++ {
			l := fresh(t, b, day, have)
			for _, x := range l {
				if slices.Contains(have, x) || x.Day != day {
					t.Fatal("Fresh tells what is there", day, have, x)
				}
			}
			have = append(have, l...)
			if more := fresh(t, b, day, have); len(more) != 0 {
				t.Fatal("Fresh tells more", day, have, more)
			}
			if more := fresh(t, b, day, append(Sorted(have), l...)); len(more) != 0 {
				t.Fatal("Fresh tells more", day, have, more)
			}
		}
	}
}

func TestWhatIsKeptWasKept(t *testing.T) { // P16.4
	r := rand.New(rand.NewSource(3))
	for range 300 {
		b, have := anyBook(t, r), anyTickets(r)
		for day := int64(20); day > 1; day-- {
			before := Keep(b, have, day-1)
			for _, x := range Keep(b, have, day) {
				if day-1 >= x.Day && !slices.Contains(before, x) {
					t.Fatal("kept, and not on the day ahead", x, day)
				}
			}
		}
		day := 1 + r.Int63n(20)
		if l := Keep(b, have, day); !slices.Equal(Keep(b, l, day), l) {
			t.Fatal("what is kept is not kept again", l, day)
		}
	}
}
