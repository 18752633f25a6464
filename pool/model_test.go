package pool

import (
	"math"
	"math/rand"
	"slices"
	"testing"

	"dayshift/api"
	"dayshift/jdl"
)

// model is a pool as lists that are searched from their beginnings on.
type model struct {
	res  []jdl.Res
	held []Held
}

func newModel(l []jdl.Res) *model {
	m := &model{}
	for _, r := range l {
		if m.find(r.Name) == nil {
			m.res = append(m.res, r)
		}
	}
	for i := range m.res {
		r := &m.res[i]
		if r.Units < 0 {
			r.Units = 0
		}
		if r.Units > 1000 {
			r.Units = 1000
		}
	}
	return m
}

func (m *model) find(name string) *jdl.Res {
	for i := range m.res {
		if m.res[i].Name == name {
			return &m.res[i]
		}
	}
	return nil
}

func (m *model) units(name string) (*jdl.Res, api.Errno) {
	r := m.find(name)
	if r == nil {
		return nil, api.ErrName
	}
	if r.Lock {
		return nil, api.ErrArg
	}
	return r, api.OK
}

// of tells who holds something of a resource, in a mode.
func (m *model) of(name string, mode int) (owners int, n int64) {
	for _, h := range m.held {
		if h.Name == name && h.Mode == mode {
			owners++
			n += h.N
		}
	}
	return owners, n
}

func (m *model) canBe(l []jdl.Need) api.Errno {
	for i, n := range l {
		r := m.find(n.Name)
		if r == nil {
			return api.ErrName
		}
		units := n.Mode == 0 && 0 < n.N && n.N <= 1000
		if r.Lock && n.Mode != 1 && n.Mode != 2 || !r.Lock && !units {
			return api.ErrArg
		}
		for _, ahead := range l[:i] {
			if ahead.Name == n.Name {
				return api.ErrTwice
			}
		}
	}
	return api.OK
}

func (m *model) may(owner int64, l []jdl.Need) api.Errno {
	if slices.ContainsFunc(m.held, func(h Held) bool { return h.Owner == owner }) {
		return api.ErrState
	}
	if e := m.canBe(l); e != api.OK {
		return e
	}
	for _, n := range l {
		_, units := m.of(n.Name, 0)
		readers, _ := m.of(n.Name, 1)
		writers, _ := m.of(n.Name, 2)
		switch n.Mode {
		case 0:
			if m.find(n.Name).Units-units < n.N {
				return api.ErrHeld
			}
		case 1:
			if writers > 0 {
				return api.ErrHeld
			}
		case 2:
			if readers+writers > 0 {
				return api.ErrHeld
			}
		}
	}
	return api.OK
}

func (m *model) take(owner int64, l []jdl.Need) api.Errno {
	e := m.may(owner, l)
	if e == api.OK {
		m.held = append(m.held, wantHeld(owner, l)...)
	}
	return e
}

func (m *model) give(owner int64) int {
	var stay []Held
	for _, h := range m.held {
		if h.Owner != owner {
			stay = append(stay, h)
		}
	}
	n := len(m.held) - len(stay)
	m.held = stay
	return n
}

func (m *model) resize(name string, n int64) api.Errno {
	r, e := m.units(name)
	if e != api.OK {
		return e
	}
	if n < 0 || n > 1000 {
		return api.ErrRange
	}
	r.Units = n
	return api.OK
}

func (m *model) list() []Held {
	l := slices.Clone(m.held)
	slices.SortFunc(l, heldOrder)
	return l
}

func anyName(r *rand.Rand) string {
	return []string{"a", "b", "c", "d", "", "a\x00", "x"}[r.Intn(7)]
}

func anyNumber(r *rand.Rand) int64 {
	if r.Intn(12) == 0 {
		edges := []int64{math.MinInt64, -1, 0, 999, 1000, 1001, math.MaxInt64}
		return edges[r.Intn(len(edges))]
	}
	return 1 + r.Int63n(5)
}

func anyRes(r *rand.Rand) []jdl.Res {
	var l []jdl.Res
	for range r.Intn(10) {
		l = append(l, jdl.Res{Name: anyName(r), Units: 3 * anyNumber(r), Lock: r.Intn(3) == 0})
	}
	return l
}

// anyNeeds has needs that a pool could meet, most of the time.
func anyNeeds(r *rand.Rand, m *model) []jdl.Need {
	var l []jdl.Need
	for range r.Intn(4) {
		n := jdl.Need{Name: anyName(r), N: anyNumber(r), Mode: r.Intn(3)}
		if found := m.find(n.Name); found == nil && len(m.res) > 0 && r.Intn(8) > 0 {
			n.Name = m.res[r.Intn(len(m.res))].Name
		}
		if found := m.find(n.Name); found != nil && r.Intn(10) > 0 {
			n.Mode = 0
			if found.Lock {
				n.Mode = 1 + r.Intn(2)
			}
		} else if r.Intn(6) == 0 {
			n.Mode = r.Intn(9) - 4
		}
		l = append(l, n)
	}
	return l
}

// agrees holds all that a pool tells of itself against a model.
func agrees(t *testing.T, p *Pool, m *model) {
	t.Helper()
	if l := p.List(); !slices.Equal(l, m.list()) {
		t.Fatal("List", l, m.list())
	}
	for _, name := range []string{"a", "b", "c", "d", "", "a\x00", "x", "y"} {
		var units, free int64
		r, want := m.units(name)
		if want == api.OK {
			_, n := m.of(name, 0)
			units, free = r.Units, r.Units-n
		}
		if n, e := p.Units(name); n != units || e != want {
			t.Fatal("Units", name, n, e, units, want)
		}
		if n, e := p.Free(name); n != free || e != want {
			t.Fatal("Free", name, n, e, free, want)
		}
	}
}

// safe tells whether no more is held than there is, of what was never made smaller, and locks are held as they may.
func safe(p *Pool, res []jdl.Res, smaller map[string]bool) bool {
	for _, r := range newModel(res).res {
		n, e := p.Free(r.Name)
		if e == api.OK && n < 0 && !smaller[r.Name] {
			return false
		}
		holders, writers := 0, 0
		for _, h := range p.List() {
			if h.Name == r.Name {
				holders++
				if h.Mode == exclusive {
					writers++
				}
			}
		}
		if r.Lock && writers > 0 && holders > 1 {
			return false
		}
	}
	return true
}

// back holds that Give is the other way of a Take that was not refused, and Take that of a Give.
func back(t *testing.T, p *Pool, owner int64, l []jdl.Need) {
	t.Helper()
	c := p.Copy()
	ahead := c.List()
	e := c.Take(owner, l)
	if e == api.OK && c.Give(owner) != len(l) || !slices.Equal(c.List(), ahead) {
		t.Fatal("Take and Give", e, c.List(), ahead)
	}
}

func TestAnyScript(t *testing.T) { // P13.1, P13.2, P13.3, P13.4, P13.5, P2
	answers := map[api.Errno]int{}
	for seed := range int64(200) {
		r := rand.New(rand.NewSource(seed))
		res := anyRes(r)
		p, m, smaller := New(res), newModel(res), map[string]bool{}
		for range 300 {
			owner := r.Int63n(8) - 2
			switch r.Intn(10) {
			default:
				l := anyNeeds(r, m)
				back(t, p, owner, l)
				may, want := p.May(owner, l), m.may(owner, l)
				if got := p.Take(owner, l); may != want || got != m.take(owner, l) || got != want {
					t.Fatal("Take", owner, l, may, got, want)
				}
				answers[want]++
			case 0, 1, 2:
				if got, want := p.Give(owner), m.give(owner); got != want {
					t.Fatal("Give", owner, got, want)
				}
			case 3:
				name, n := anyName(r), 4*anyNumber(r)
				if u, _ := p.Units(name); n < u {
					smaller[name] = true
				}
				if got, want := p.Resize(name, n), m.resize(name, n); got != want {
					t.Fatal("Resize", name, n, got, want)
				}
			case 4:
				p = p.Copy()
			}
			agrees(t, p, m)
			if !safe(p, res, smaller) {
				t.Fatal("more is held than there is", p.List(), res)
			}
		}
	}
	for _, e := range []api.Errno{api.OK, api.ErrState, api.ErrName, api.ErrArg, api.ErrTwice, api.ErrHeld} {
		if answers[e] < 100 {
			t.Error("the scripts have too few of", e, answers[e])
		}
	}
}

func TestGiveThenTake(t *testing.T) { // P13.5
	for seed := range int64(100) {
		r := rand.New(rand.NewSource(seed))
		res := anyRes(r)
		p, m := New(res), newModel(res)
		for owner := range int64(6) {
			l := anyNeeds(r, m)
			if p.Take(owner, l) != api.OK {
				continue
			}
			ahead := p.List()
			if n := p.Give(owner); n != len(l) {
				t.Fatal("Give", n, l)
			}
			slices.Reverse(l)
			if e := p.Take(owner, l); e != api.OK || !slices.Equal(p.List(), ahead) {
				t.Fatal("Take", e, p.List(), ahead)
			}
		}
	}
}
