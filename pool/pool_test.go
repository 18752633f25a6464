package pool

import (
	"math"
	"slices"
	"strings"
	"testing"

	"dayshift/api"
	"dayshift/jdl"
)

func some(name string, n int64) jdl.Need { return jdl.Need{Name: name, N: n} }

func sharing(name string) jdl.Need { return jdl.Need{Name: name, Mode: shared} }

func alone(name string) jdl.Need { return jdl.Need{Name: name, Mode: exclusive} }

func needs(l ...jdl.Need) []jdl.Need { return l }

// office has four cpus, two tapes, and the locks db and net.
func office() *Pool {
	return New([]jdl.Res{{Name: "cpu", Units: 4}, {Name: "db", Lock: true}, {Name: "tape", Units: 2}, {Name: "net", Lock: true}})
}

func take(t *testing.T, p *Pool, owner int64, l ...jdl.Need) {
	t.Helper()
	if e := p.Take(owner, l); e != api.OK {
		t.Fatal("Take", owner, l, e)
	}
}

// has asks a pool for the units of a resource, and how many are free.
func has(t *testing.T, p *Pool, name string, units, free int64) {
	t.Helper()
	if n, e := p.Units(name); n != units || e != api.OK {
		t.Error("Units", name, n, e, "not", units)
	}
	if n, e := p.Free(name); n != free || e != api.OK {
		t.Error("Free", name, n, e, "not", free)
	}
}

// refuses asks a pool for units where there are none to be told.
func refuses(t *testing.T, p *Pool, name string, want api.Errno) {
	t.Helper()
	if n, e := p.Units(name); n != 0 || e != want {
		t.Error("Units", name, n, e, "not", want)
	}
	if n, e := p.Free(name); n != 0 || e != want {
		t.Error("Free", name, n, e, "not", want)
	}
	for _, n := range []int64{math.MinInt64, -1, 0, 1, api.MaxUnits, api.MaxUnits + 1, math.MaxInt64} {
		if e := p.Resize(name, n); e != want {
			t.Error("Resize", name, n, e, "not", want)
		}
	}
}

func holds(t *testing.T, p *Pool, want ...Held) {
	t.Helper()
	if l := p.List(); !slices.Equal(l, want) {
		t.Error("List", l, "not", want)
	}
}

// may holds May and Take against what an owner is to be told, and a refused Take changes nothing.
func may(t *testing.T, p *Pool, owner int64, want api.Errno, l ...jdl.Need) {
	t.Helper()
	ahead := p.List()
	if e := p.May(owner, l); e != want {
		t.Error("May", owner, l, e, "not", want)
	}
	holds(t, p, ahead...)
	c := p.Copy()
	if e := c.Take(owner, l); e != want {
		t.Error("Take", owner, l, e, "not", want)
	}
	if want == api.OK {
		ahead = append(ahead, wantHeld(owner, l)...)
		slices.SortFunc(ahead, heldOrder)
	}
	holds(t, c, ahead...)
}

func wantHeld(owner int64, l []jdl.Need) []Held {
	var held []Held
	for _, n := range l {
		h := Held{Owner: owner, Name: n.Name, N: n.N, Mode: n.Mode}
		if n.Mode != 0 {
			h.N = 0
		}
		held = append(held, h)
	}
	return held
}

func heldOrder(a, b Held) int {
	if a.Owner < b.Owner || a.Owner == b.Owner && a.Name < b.Name {
		return -1
	}
	return 1
}

func TestExample(t *testing.T) { // P13.1, P13.2
	p := New([]jdl.Res{{Name: "cpu", Units: 4}})
	take(t, p, 1, some("cpu", 3))
	has(t, p, "cpu", 4, 1)
	if e := p.Take(2, needs(some("cpu", 2))); e != api.ErrHeld {
		t.Error("Take", e)
	}
	if n := p.Give(1); n != 1 {
		t.Error("Give", n)
	}
	take(t, p, 2, some("cpu", 2))
	has(t, p, "cpu", 4, 2)
}

func TestNew(t *testing.T) { // P13.1
	p := New([]jdl.Res{
		{Name: "cpu", Units: 4}, {Name: "db", Lock: true, Units: 7}, {Name: "cpu", Units: 9}, {Name: "cpu", Lock: true},
		{Name: "db", Units: 3}, {Name: "db", Lock: true}, {Name: "", Units: 2}, {Name: "CPU", Units: 5}, {Name: "\xff", Units: 6},
	})
	has(t, p, "cpu", 4, 4)
	has(t, p, "", 2, 2)
	has(t, p, "CPU", 5, 5)
	has(t, p, "\xff", 6, 6)
	refuses(t, p, "db", api.ErrArg)
	may(t, p, 1, api.OK, some("cpu", 4), alone("db"))
	holds(t, p)
	if New(nil) == New(nil) {
		t.Error("the same pool twice")
	}
}

func TestUnitsThatCanNotBe(t *testing.T) { // P13.1
	for _, x := range []struct{ units, want int64 }{
		{math.MinInt64, 0}, {-api.MaxUnits, 0}, {-1, 0}, {0, 0}, {1, 1}, {api.MaxUnits - 1, api.MaxUnits - 1},
		{api.MaxUnits, api.MaxUnits}, {api.MaxUnits + 1, api.MaxUnits}, {math.MaxInt64, api.MaxUnits},
	} {
		p := New([]jdl.Res{{Name: "a", Units: x.units}, {Name: "b", Lock: true, Units: x.units}})
		has(t, p, "a", x.want, x.want)
		refuses(t, p, "b", api.ErrArg)
		may(t, p, 1, api.OK, sharing("b"))
		if x.want > 0 {
			may(t, p, 1, api.OK, some("a", x.want))
		}
		if x.want < api.MaxUnits {
			may(t, p, 1, api.ErrHeld, some("a", x.want+1))
		}
	}
}

func TestNoSuchResource(t *testing.T) { // P13.1, P6
	for _, p := range []*Pool{office(), New(nil), New([]jdl.Res{})} {
		for _, name := range []string{"x", "", "CPU", "cpu ", "cp", "\x00", strings.Repeat("x", 60000)} {
			refuses(t, p, name, api.ErrName)
			may(t, p, 1, api.ErrName, some(name, 1))
			may(t, p, 1, api.ErrName, sharing(name))
		}
		holds(t, p)
	}
}

func TestResize(t *testing.T) { // P13.1
	p := office()
	take(t, p, 1, some("cpu", 3), sharing("db"))
	for _, n := range []int64{0, 1, 2, 3, 4, api.MaxUnits - 1, api.MaxUnits, 5} {
		if e := p.Resize("cpu", n); e != api.OK {
			t.Error("Resize", n, e)
		}
		has(t, p, "cpu", n, n-3)
	}
	for _, n := range []int64{math.MinInt64, -api.MaxUnits, -1, api.MaxUnits + 1, math.MaxInt64} {
		if e := p.Resize("cpu", n); e != api.ErrRange {
			t.Error("Resize", n, e)
		}
		has(t, p, "cpu", 5, 2)
	}
	refuses(t, p, "db", api.ErrArg)
	refuses(t, p, "x", api.ErrName)
	has(t, p, "tape", 2, 2)
	holds(t, p, Held{1, "cpu", 3, 0}, Held{1, "db", 0, shared})
}

func TestSmallerThanWhatIsHeld(t *testing.T) { // P13.1, P13.2
	p := office()
	take(t, p, 1, some("cpu", 3))
	take(t, p, 2, some("cpu", 1))
	if e := p.Resize("cpu", 2); e != api.OK {
		t.Error("Resize", e)
	}
	has(t, p, "cpu", 2, -2)
	may(t, p, 3, api.ErrHeld, some("cpu", 1))
	may(t, p, 3, api.OK, some("tape", 1))
	p.Give(2)
	has(t, p, "cpu", 2, -1)
	may(t, p, 3, api.ErrHeld, some("cpu", 1))
	p.Give(1)
	has(t, p, "cpu", 2, 2)
	may(t, p, 3, api.OK, some("cpu", 2))
	may(t, p, 3, api.ErrHeld, some("cpu", 3))
}

func TestGreater(t *testing.T) { // P13.1, P13.2
	p := office()
	take(t, p, 1, some("cpu", 4))
	may(t, p, 2, api.ErrHeld, some("cpu", 1))
	if e := p.Resize("cpu", 5); e != api.OK {
		t.Error("Resize", e)
	}
	may(t, p, 2, api.OK, some("cpu", 1))
	may(t, p, 2, api.ErrHeld, some("cpu", 2))
}

func TestOwnerThatHolds(t *testing.T) { // P13.2
	p := office()
	take(t, p, 1, sharing("net"))
	for _, l := range [][]jdl.Need{nil, {}, needs(some("cpu", 1)), needs(sharing("net")), needs(some("x", 1)), needs(some("cpu", 0)), needs(some("cpu", 9)), needs(sharing("db"), sharing("db"))} {
		may(t, p, 1, api.ErrState, l...)
	}
	for _, owner := range []int64{0, -1, 2, math.MinInt64, math.MaxInt64} {
		may(t, p, owner, api.OK, some("cpu", 1), sharing("net"))
	}
	p.Give(1)
	may(t, p, 1, api.OK, alone("net"))
}

func TestNeedsThatCanNotBe(t *testing.T) { // P13.2, P6
	p := office()
	take(t, p, 7, some("cpu", 1), alone("db"))
	for _, mode := range []int{math.MinInt, -2, -1, 3, 4, 256, math.MaxInt} {
		may(t, p, 1, api.ErrArg, jdl.Need{Name: "cpu", N: 1, Mode: mode})
		may(t, p, 1, api.ErrArg, jdl.Need{Name: "net", N: 1, Mode: mode})
		may(t, p, 1, api.ErrArg, jdl.Need{Name: "db", Mode: mode})
	}
	for _, n := range []int64{math.MinInt64, -api.MaxUnits, -1, 0, api.MaxUnits + 1, math.MaxInt64} {
		may(t, p, 1, api.ErrArg, some("cpu", n))
		may(t, p, 1, api.ErrArg, some("net", n))
		may(t, p, 1, api.OK, jdl.Need{Name: "net", N: n, Mode: shared})
		may(t, p, 1, api.OK, jdl.Need{Name: "net", N: n, Mode: exclusive})
	}
	may(t, p, 1, api.ErrArg, sharing("cpu"))
	may(t, p, 1, api.ErrArg, alone("cpu"))
	may(t, p, 1, api.ErrArg, jdl.Need{Name: "cpu", N: 1, Mode: shared})
	may(t, p, 1, api.ErrArg, some("net", 1))
	may(t, p, 1, api.ErrHeld, some("cpu", api.MaxUnits))
}

func TestWhichErrorComesFirst(t *testing.T) { // P13.2, P6
	p := office()
	take(t, p, 7, some("cpu", 3), alone("db"))
	for _, x := range []struct {
		want api.Errno
		l    []jdl.Need
	}{
		{api.ErrTwice, needs(some("cpu", 1), some("cpu", 1))},
		{api.ErrTwice, needs(some("cpu", 1), sharing("net"), some("cpu", 2))},
		{api.ErrTwice, needs(sharing("net"), alone("net"))},
		{api.ErrTwice, needs(some("cpu", 1), some("cpu", 1), some("x", 1))},
		{api.ErrTwice, needs(some("cpu", 1), some("cpu", 1), some("tape", 0))},
		{api.ErrTwice, needs(some("cpu", 2), some("cpu", 2))},
		{api.ErrTwice, needs(sharing("db"), sharing("db"))},
		{api.ErrArg, needs(some("cpu", 1), some("cpu", 0))},
		{api.ErrArg, needs(some("cpu", 0), some("cpu", 1), some("x", 1))},
		{api.ErrArg, needs(some("cpu", 2), some("tape", 0))},
		{api.ErrArg, needs(sharing("db"), sharing("tape"))},
		{api.ErrName, needs(some("x", 0))},
		{api.ErrName, needs(some("x", 1), some("cpu", 0))},
		{api.ErrName, needs(some("x", 1), some("x", 1))},
		{api.ErrName, needs(some("cpu", 2), some("x", 1))},
		{api.ErrName, needs(sharing("db"), some("tape", 1), some("x", 1))},
		{api.ErrHeld, needs(some("tape", 1), some("cpu", 2))},
		{api.ErrHeld, needs(some("cpu", 2), some("tape", 1))},
		{api.ErrHeld, needs(sharing("net"), sharing("db"))},
		{api.OK, needs(some("cpu", 1), some("tape", 2), alone("net"))},
		{api.OK, nil},
		{api.OK, needs()},
	} {
		may(t, p, 1, x.want, x.l...)
	}
}

func TestLocks(t *testing.T) { // P13.2, P13.4, P2
	p := office()
	take(t, p, 1, sharing("db"))
	take(t, p, 2, sharing("db"))
	may(t, p, 3, api.OK, sharing("db"))
	may(t, p, 3, api.ErrHeld, alone("db"))
	may(t, p, 3, api.OK, alone("net"))
	p.Give(1)
	may(t, p, 3, api.ErrHeld, alone("db"))
	p.Give(2)
	take(t, p, 3, alone("db"))
	may(t, p, 1, api.ErrHeld, sharing("db"))
	may(t, p, 1, api.ErrHeld, alone("db"))
	may(t, p, 1, api.OK, sharing("net"))
	p.Give(3)
	may(t, p, 1, api.OK, alone("db"))
}

func TestManyShareALock(t *testing.T) { // P13.2
	p := office()
	for owner := range int64(3000) {
		take(t, p, owner, sharing("db"))
	}
	may(t, p, -1, api.OK, sharing("db"))
	may(t, p, -1, api.ErrHeld, alone("db"))
	if l := p.List(); len(l) != 3000 || l[2999] != (Held{2999, "db", 0, shared}) {
		t.Error("List", len(l))
	}
}

func TestTakeIsAllOrNothing(t *testing.T) { // P13.2, P13.5
	p := office()
	take(t, p, 1, some("tape", 2))
	if e := p.Take(2, needs(some("cpu", 4), alone("db"), some("tape", 1))); e != api.ErrHeld {
		t.Error("Take", e)
	}
	has(t, p, "cpu", 4, 4)
	may(t, p, 3, api.OK, some("cpu", 4), alone("db"))
	may(t, p, 2, api.OK, some("cpu", 4), alone("db"))
	holds(t, p, Held{1, "tape", 2, 0})
}

func TestTakeOfNothing(t *testing.T) { // P13.2
	p := office()
	take(t, p, 1)
	take(t, p, 1)
	holds(t, p)
	if n := p.Give(1); n != 0 {
		t.Error("Give", n)
	}
	take(t, p, 1, some("cpu", 4))
}

func TestGive(t *testing.T) { // P13.2
	p := office()
	take(t, p, 1, sharing("db"), some("cpu", 1), some("tape", 2))
	take(t, p, 2, some("cpu", 2), sharing("db"))
	for _, owner := range []int64{0, -1, 3, math.MinInt64, math.MaxInt64} {
		if n := p.Give(owner); n != 0 {
			t.Error("Give", owner, n)
		}
	}
	if n := p.Give(1); n != 3 {
		t.Error("Give", n)
	}
	if n := p.Give(1); n != 0 {
		t.Error("Give again", n)
	}
	has(t, p, "cpu", 4, 2)
	has(t, p, "tape", 2, 2)
	holds(t, p, Held{2, "cpu", 2, 0}, Held{2, "db", 0, shared})
	if n := p.Give(2); n != 2 {
		t.Error("Give", n)
	}
	has(t, p, "cpu", 4, 4)
	holds(t, p)
}

func TestListIsSorted(t *testing.T) { // P13.3
	names := []string{"", "\x00", "A", "Z", "a", "a\x00", "a_1", "aa", "b", "\x80", "é", "\xff"}
	owners := []int64{math.MinInt64, -10, -9, -1, 0, 1, 2, 10, 100, math.MaxInt64}
	var res []jdl.Res
	var l []jdl.Need
	for i, name := range names {
		res = append(res, jdl.Res{Name: name, Units: api.MaxUnits, Lock: i%2 == 0})
		l = append(l, jdl.Need{Name: name, N: int64(i), Mode: (i + 1) % 2})
	}
	slices.Reverse(l)
	p := New(res)
	var want []Held
	for i := range owners {
		take(t, p, owners[len(owners)-1-i], l...)
		for k, name := range names {
			h := Held{Owner: owners[i], Name: name, N: int64(k), Mode: (k + 1) % 2}
			if h.Mode == shared {
				h.N = 0
			}
			want = append(want, h)
		}
	}
	for range 20 {
		holds(t, p, want...)
	}
}

func TestOfALockNIs0(t *testing.T) { // P13.3
	p := office()
	take(t, p, 1, jdl.Need{Name: "db", N: 5, Mode: exclusive}, jdl.Need{Name: "net", N: -5, Mode: shared})
	holds(t, p, Held{1, "db", 0, exclusive}, Held{1, "net", 0, shared})
}

func TestListsAreTheirOwn(t *testing.T) { // rules 4 and 5
	res := []jdl.Res{{Name: "cpu", Units: 4}, {Name: "tape", Units: 2}}
	p := New(res)
	if !slices.Equal(res, []jdl.Res{{Name: "cpu", Units: 4}, {Name: "tape", Units: 2}}) {
		t.Error("New changes its list", res)
	}
	res[0] = jdl.Res{Name: "db", Lock: true}
	has(t, p, "cpu", 4, 4)
	l := needs(some("tape", 1), some("cpu", 3))
	take(t, p, 1, l...)
	if !slices.Equal(l, needs(some("tape", 1), some("cpu", 3))) {
		t.Error("Take changes its list", l)
	}
	l[0], l[1] = some("x", 9), some("cpu", 1)
	want := []Held{{1, "cpu", 3, 0}, {1, "tape", 1, 0}}
	holds(t, p, want...)
	told, other := p.List(), p.List()
	told[0] = Held{9, "x", 9, 9}
	_ = append(told[:1], Held{9, "y", 9, 9})
	_ = append(told, Held{9, "z", 9, 9})
	if !slices.Equal(other, want) {
		t.Error("the lists share memory", other)
	}
	holds(t, p, want...)
}

func TestCopy(t *testing.T) { // P13.3
	p := office()
	take(t, p, 1, some("cpu", 3), alone("db"))
	if e := p.Resize("tape", 9); e != api.OK {
		t.Error("Resize", e)
	}
	c := p.Copy()
	if c == p || p.Copy() == p.Copy() {
		t.Error("the same pool twice")
	}
	held := []Held{{1, "cpu", 3, 0}, {1, "db", 0, exclusive}}
	holds(t, c, held...)
	has(t, c, "cpu", 4, 1)
	has(t, c, "tape", 9, 9)
	refuses(t, c, "db", api.ErrArg)
	take(t, c, 2, some("cpu", 1))
	c.Resize("cpu", 7)
	holds(t, p, held...)
	has(t, p, "cpu", 4, 1)
	p.Give(1)
	p.Resize("tape", 0)
	holds(t, p)
	holds(t, c, Held{1, "cpu", 3, 0}, Held{1, "db", 0, exclusive}, Held{2, "cpu", 1, 0})
	has(t, c, "cpu", 7, 3)
	has(t, c, "tape", 9, 9)
	may(t, c, 3, api.ErrHeld, sharing("db"))
	may(t, New(nil).Copy(), 3, api.OK)
}

func TestNoPool(t *testing.T) { // P13.3, P6
	var p *Pool
	for _, name := range []string{"", "cpu", strings.Repeat("x", 60000)} {
		refuses(t, p, name, api.ErrNil)
	}
	for _, owner := range []int64{math.MinInt64, 0, 1, math.MaxInt64} {
		for _, l := range [][]jdl.Need{nil, needs(some("cpu", 1)), needs(some("cpu", 0), sharing("cpu"))} {
			if p.May(owner, l) != api.ErrNil || p.Take(owner, l) != api.ErrNil {
				t.Error("May", p.May(owner, l), p.Take(owner, l))
			}
		}
		if n := p.Give(owner); n != 0 {
			t.Error("Give", n)
		}
	}
	if l := p.List(); len(l) != 0 {
		t.Error("List", l)
	}
	if p.Copy() != nil {
		t.Error("Copy", p.Copy())
	}
}

func TestPoolThatNewDidNotMake(t *testing.T) { // P6
	var none Pool
	for _, p := range []*Pool{&none, none.Copy()} {
		refuses(t, p, "cpu", api.ErrName)
		may(t, p, 1, api.ErrName, some("cpu", 1))
		may(t, p, 1, api.OK)
		take(t, p, 1)
		if n := p.Give(1); n != 0 {
			t.Error("Give", n)
		}
		holds(t, p)
	}
}
