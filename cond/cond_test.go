package cond

import (
	"math"
	"slices"
	"strings"
	"testing"

	"dayshift/api"
)

func of(name string, day int64) api.Cond { return api.Cond{Name: name, Day: day} }

// stored has conditions that all can be, and for which there is room.
func stored(t *testing.T, l ...api.Cond) *Store {
	t.Helper()
	s := New()
	for _, c := range l {
		if e := s.Add(c); e != api.OK {
			t.Fatal("Add", c, e)
		}
	}
	return s
}

// full has as many conditions as there may be: those of the name n, from the day 1 on.
func full(t *testing.T) *Store {
	t.Helper()
	s := New()
	for i := range int64(api.MaxConds) {
		if e := s.Add(of("n", i+1)); e != api.OK {
			t.Fatal("Add", i, e)
		}
	}
	return s
}

// holds asks a store for all that it tells of itself.
func holds(t *testing.T, s *Store, want ...api.Cond) {
	t.Helper()
	if l := s.List(); !slices.Equal(l, want) || s.Len() != len(want) {
		t.Error("List", l, s.Len(), "not", want)
	}
	for _, c := range want {
		if !s.Has(c) || !s.Any(c.Name) {
			t.Error("not there", c)
		}
	}
}

// someDays has days that can be and that can not.
func someDays() []int64 {
	return []int64{math.MinInt64, math.MinInt64 + 1, -api.MaxDay, -1, 0, 1, 2, 3, 365, api.MaxDay - 1, api.MaxDay, api.MaxDay + 1, api.MaxClock, math.MaxInt64 - 1, math.MaxInt64}
}

func TestExample(t *testing.T) { // P11.1, P11.2
	s := stored(t, of("b", 5), of("a", 9), of("b", 3))
	holds(t, s, of("a", 9), of("b", 3), of("b", 5))
	if n := s.Clean(5); n != 1 {
		t.Error("Clean", n)
	}
	holds(t, s, of("a", 9), of("b", 5))
}

func TestNone(t *testing.T) { // P11.1, P11.2
	s := New()
	holds(t, s)
	if s.Has(of("a", 1)) || s.Any("a") || s.Drop(of("a", 1)) || s.DropAll("a") != 0 || s.Clean(math.MaxInt64) != 0 {
		t.Error("something is there")
	}
	holds(t, s)
	if New() == s {
		t.Error("the same store twice")
	}
}

func TestConditionsThatCanBe(t *testing.T) { // P11.1
	names := []string{"a", " ", "\x00", "\xff", "A", "and", "é", "a.prev", strings.Repeat("x", 19), strings.Repeat("x", 20), strings.Repeat("é", 10), strings.Repeat("\x80", 20)}
	for _, name := range names {
		for _, day := range []int64{1, 2, 365, api.MaxDay - 1, api.MaxDay} {
			holds(t, stored(t, of(name, day)), of(name, day))
		}
	}
}

func TestConditionsThatCanNotBe(t *testing.T) { // P11.1, P6
	var wrong []api.Cond
	for _, name := range []string{"", strings.Repeat("x", 21), strings.Repeat("é", 11), strings.Repeat("x", 20) + "\x00", strings.Repeat("x", 60000)} {
		wrong = append(wrong, of(name, 1), of(name, api.MaxDay), of(name, 0))
	}
	for _, day := range []int64{math.MinInt64, -api.MaxDay, -1, 0, api.MaxDay + 1, api.MaxClock, math.MaxInt64} {
		wrong = append(wrong, of("a", day), of(strings.Repeat("x", 20), day))
	}
	for _, c := range wrong {
		for _, s := range []*Store{New(), stored(t, of("a", 1), of("x", api.MaxDay)), full(t)} {
			ahead := s.List()
			if e := s.Add(c); e != api.ErrArg {
				t.Error("Add", c, e)
			}
			if s.Has(c) || s.Drop(c) {
				t.Error("it is there", c)
			}
			holds(t, s, ahead...)
		}
	}
}

func TestTwice(t *testing.T) { // P11.1
	s := stored(t, of("a", 5), of("a", 5), of("a", 6), of("a", 5))
	holds(t, s, of("a", 5), of("a", 6))
	if !s.Drop(of("a", 5)) || s.Drop(of("a", 5)) {
		t.Error("it is not there once")
	}
	holds(t, s, of("a", 6))
}

func TestFull(t *testing.T) { // P11.1
	s := full(t)
	ahead := s.List()
	for _, c := range []api.Cond{of("n", api.MaxConds+1), of("m", 1), of("z", api.MaxDay)} {
		if e := s.Add(c); e != api.ErrFull {
			t.Error("Add", c, e)
		}
	}
	for _, c := range ahead {
		if e := s.Add(c); e != api.OK {
			t.Error("Add of one that is there", c, e)
		}
	}
	for _, c := range []api.Cond{of("", 1), of("n", 0)} {
		if e := s.Add(c); e != api.ErrArg {
			t.Error("Add of one that can not be", c, e)
		}
	}
	holds(t, s, ahead...)
	if !s.Drop(of("n", 7)) || s.Add(of("m", 1)) != api.OK || s.Add(of("n", 7)) != api.ErrFull {
		t.Error("no room for just one")
	}
	if s.Len() != api.MaxConds || s.Clean(10) != 9 || s.Len() != api.MaxConds-9 {
		t.Error("Clean", s.Len())
	}
	for i := range int64(9) {
		if e := s.Add(of("o", i+1)); e != api.OK {
			t.Error("Add where there is room", e)
		}
	}
	if s.Add(of("p", 1)) != api.ErrFull || s.DropAll("o") != 9 || s.Add(of("p", 1)) != api.OK {
		t.Error("DropAll makes no room")
	}
}

func TestDrop(t *testing.T) { // P11.1
	s := stored(t, of("a", 1), of("a", 2), of("b", 1), of("ab", 2))
	for _, c := range []api.Cond{of("a", 3), of("b", 2), of("A", 1), of("c", 1), of("a", 0), of("", 1), {}} {
		if s.Drop(c) {
			t.Error("Drop", c)
		}
	}
	holds(t, s, of("a", 1), of("a", 2), of("ab", 2), of("b", 1))
	if !s.Drop(of("a", 2)) || s.Has(of("a", 2)) || !s.Any("a") {
		t.Error("Drop of a 2")
	}
	holds(t, s, of("a", 1), of("ab", 2), of("b", 1))
	if !s.Drop(of("a", 1)) || s.Any("a") {
		t.Error("Drop of a 1")
	}
	holds(t, s, of("ab", 2), of("b", 1))
}

func TestDropAll(t *testing.T) { // P11.1
	s := stored(t, of("a", 1), of("a", 2), of("b", 1), of("a", api.MaxDay), of("aa", 2))
	for _, name := range []string{"", "c", "A", "a ", strings.Repeat("a", 21)} {
		if n := s.DropAll(name); n != 0 {
			t.Error("DropAll", name, n)
		}
	}
	if n := s.DropAll("a"); n != 3 || s.Any("a") {
		t.Error("DropAll", n)
	}
	holds(t, s, of("aa", 2), of("b", 1))
	if n := s.DropAll("a"); n != 0 {
		t.Error("DropAll again", n)
	}
	if s := full(t); s.DropAll("n") != api.MaxConds || s.Len() != 0 {
		t.Error("DropAll of a full store")
	}
}

func TestHas(t *testing.T) { // P11.2
	s := stored(t, of("a", 5), of("b", 5), of("b", 7))
	for _, name := range []string{"a", "b", "c", "", "A", "ab"} {
		for _, day := range someDays() {
			if s.Has(of(name, day)) {
				t.Error("Has", name, day)
			}
		}
		for day := int64(4); day <= 8; day++ {
			want := day == 5 && (name == "a" || name == "b") || day == 7 && name == "b"
			if s.Has(of(name, day)) != want {
				t.Error("Has", name, day)
			}
		}
		if s.Any(name) != (name == "a" || name == "b") {
			t.Error("Any", name)
		}
	}
	holds(t, s, of("a", 5), of("b", 5), of("b", 7))
}

func TestListIsSorted(t *testing.T) { // P11.2
	want := []api.Cond{of("\x00", 9), of("A", 9), of("Z", 9), of("a", 2), of("a", 10), of("a", 100), of("a\x00", 1), of("a_1", 1), of("aa", 1), of("b", 1), of("z", 1), of("\x80", 1), of("é", 1), of("\xff", 1)}
	back := slices.Clone(want)
	slices.Reverse(back)
	holds(t, stored(t, back...), want...)
}

func TestListIsItsOwn(t *testing.T) { // rule 4
	s := stored(t, of("a", 1), of("b", 2))
	l, other := s.List(), s.List()
	l[0] = of("x", 9)
	_ = append(l[:1], of("y", 9))
	_ = append(l, of("z", 9))
	if !slices.Equal(other, []api.Cond{of("a", 1), of("b", 2)}) {
		t.Error("the lists share memory", other)
	}
	holds(t, s, of("a", 1), of("b", 2))
}

func TestCopy(t *testing.T) { // P11.2
	s := stored(t, of("a", 1), of("b", 2))
	c := s.Copy()
	holds(t, c, of("a", 1), of("b", 2))
	s.Add(of("c", 3))
	c.Drop(of("a", 1))
	holds(t, s, of("a", 1), of("b", 2), of("c", 3))
	holds(t, c, of("b", 2))
	c.Add(of("d", 4))
	s.Clean(3)
	holds(t, s, of("c", 3))
	holds(t, c, of("b", 2), of("d", 4))
	if s.Copy() == s || s.Copy() == s.Copy() {
		t.Error("the same store twice")
	}
	none := New().Copy()
	holds(t, none)
	if none.Add(of("a", 1)) != api.OK {
		t.Error("Add to a copy of none")
	}
	if f := full(t).Copy(); f.Len() != api.MaxConds || f.Add(of("m", 1)) != api.ErrFull {
		t.Error("Copy of a full store", f.Len())
	}
}

func TestNoStore(t *testing.T) { // P11.1, P11.2, P6
	var s *Store
	for _, c := range []api.Cond{of("a", 1), {}, of(strings.Repeat("x", 21), -1)} {
		if e := s.Add(c); e != api.ErrNil {
			t.Error("Add", e)
		}
		if s.Drop(c) || s.DropAll(c.Name) != 0 || s.Has(c) || s.Any(c.Name) {
			t.Error("something is there", c)
		}
	}
	for _, day := range someDays() {
		if s.Clean(day) != 0 {
			t.Error("Clean", day)
		}
	}
	if s.List() != nil || s.Len() != 0 || s.Copy() != nil {
		t.Error("something is there")
	}
}

func TestStoreThatNewDidNotMake(t *testing.T) { // P6
	var s Store
	holds(t, &s)
	holds(t, s.Copy())
	if s.Has(of("a", 1)) || s.Any("a") || s.Drop(of("a", 1)) || s.DropAll("a") != 0 || s.Clean(9) != 0 {
		t.Error("something is there")
	}
	if e := s.Add(of("a", 1)); e != api.OK {
		t.Error("Add", e)
	}
	holds(t, &s, of("a", 1))
}

func TestClean(t *testing.T) { // P11.1, P11.4, P4
	days := []int64{1, 2, 3, 4, 365, api.MaxDay - 1, api.MaxDay}
	for _, day := range someDays() {
		s := New()
		var want []api.Cond
		for _, name := range []string{"a", "b"} {
			for _, d := range days {
				s.Add(of(name, d))
				if d >= day {
					want = append(want, of(name, d))
				}
			}
		}
		if n := s.Clean(day); n != 2*len(days)-len(want) {
			t.Error("Clean", day, n)
		}
		holds(t, s, want...)
		if n := s.Clean(day); n != 0 {
			t.Error("Clean again", day, n)
		}
		holds(t, s, want...)
	}
}
