package cond

import (
	"math/rand"
	"slices"
	"sort"
	"strings"
	"testing"

	"dayshift/api"
	"dayshift/date"
)

// model is a store as a list that is searched from its beginning on.
type model []api.Cond

func (m *model) add(c api.Cond) api.Errno {
	if _, e := date.Text(c.Day); e != api.OK || c.Name == "" || len(c.Name) > 20 {
		return api.ErrArg
	}
	if slices.Contains(*m, c) {
		return api.OK
	}
	if len(*m) == 128 {
		return api.ErrFull
	}
	*m = append(*m, c)
	return api.OK
}

// drop takes away what is to go; how many?
func (m *model) drop(goes func(c api.Cond) bool) int {
	var stay model
	for _, c := range *m {
		if !goes(c) {
			stay = append(stay, c)
		}
	}
	n := len(*m) - len(stay)
	*m = stay
	return n
}

func (m *model) list() []api.Cond {
	l := slices.Clone(*m)
	sort.Slice(l, func(i, j int) bool {
		if l[i].Name != l[j].Name {
			return l[i].Name < l[j].Name
		}
		return l[i].Day < l[j].Day
	})
	return l
}

func anyCond(r *rand.Rand, days int64) api.Cond {
	names := []string{"a", "b", "ab", "B", "a\x00", "\xff", strings.Repeat("x", 20), "", strings.Repeat("x", 21)}
	c := of(names[r.Intn(len(names))], r.Int63n(days))
	if r.Intn(4) == 0 {
		c.Name = "a"
	}
	return c
}

// step does one thing to both, and holds what they tell of it against each other.
func step(t *testing.T, r *rand.Rand, s *Store, m *model, days int64) {
	t.Helper()
	c := anyCond(r, days)
	switch r.Intn(24) {
	default:
		if got, want := s.Add(c), m.add(c); got != want {
			t.Fatal("Add", c, got, want)
		}
	case 0, 1, 2, 3, 4:
		if got, want := s.Drop(c), m.drop(func(d api.Cond) bool { return d == c }) == 1; got != want {
			t.Fatal("Drop", c, got, want)
		}
	case 5:
		if got, want := s.DropAll(c.Name), m.drop(func(d api.Cond) bool { return d.Name == c.Name }); got != want {
			t.Fatal("DropAll", c, got, want)
		}
	case 6:
		day := r.Int63n(days) - days*3/4
		if got, want := s.Clean(day), m.drop(func(d api.Cond) bool { return d.Day < day }); got != want {
			t.Fatal("Clean", day, got, want)
		}
	}
	d := anyCond(r, days)
	isName := func(c api.Cond) bool { return c.Name == d.Name }
	if s.Has(d) != slices.Contains(*m, d) || s.Any(d.Name) != slices.ContainsFunc(*m, isName) {
		t.Fatal("Has", d, s.Has(d), s.Any(d.Name))
	}
}

func TestAnyScript(t *testing.T) { // P11.1, P11.2, P11.4
	fulls := 0
	for seed := range int64(60) {
		r := rand.New(rand.NewSource(seed))
		days := []int64{4, 40, 400}[seed%3]
		s, m := New(), &model{}
		for range 1000 {
			step(t, r, s, m, days)
			if l := s.List(); !slices.Equal(l, m.list()) || s.Len() != len(*m) {
				t.Fatal("List", l, m.list())
			}
			if s.Len() == api.MaxConds {
				fulls++
			}
			if r.Intn(50) == 0 {
				s = s.Copy()
			}
		}
	}
	if fulls < 100 {
		t.Error("the stores were not full", fulls)
	}
}

func TestOrderOfAdding(t *testing.T) { // P11.3
	for seed := range int64(40) {
		r := rand.New(rand.NewSource(seed))
		var all []api.Cond
		for range r.Intn(api.MaxConds + 1) {
			all = append(all, anyCond(r, 400))
		}
		s := New()
		for _, c := range all {
			s.Add(c)
		}
		for range 5 {
			r.Shuffle(len(all), func(i, j int) { all[i], all[j] = all[j], all[i] })
			other := New()
			for _, c := range all {
				other.Add(c)
			}
			holds(t, other, s.List()...)
			if a, b := s.Copy(), other; a.DropAll("a") != b.DropAll("a") || a.Clean(200) != b.Clean(200) || !slices.Equal(a.List(), b.List()) {
				t.Fatal("the order of adding is seen", a.List(), b.List())
			}
		}
	}
}
