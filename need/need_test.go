package need

import (
	"math"
	"slices"
	"strings"
	"testing"

	"dayshift/api"
	"dayshift/jdl"
	"dayshift/pool"
)

func some(name string, n int64) jdl.Need { return jdl.Need{Name: name, N: n} }

func sharing(name string) jdl.Need { return jdl.Need{Name: name, Mode: 1} }

func alone(name string) jdl.Need { return jdl.Need{Name: name, Mode: 2} }

func held(name string, n int64, mode int) pool.Held {
	return pool.Held{Owner: 1, Name: name, N: n, Mode: mode}
}

func needs(l ...jdl.Need) []jdl.Need { return l }

// office has four cpus, two tapes, and the locks db and net.
func office() *pool.Pool {
	return pool.New([]jdl.Res{{Name: "cpu", Units: 4}, {Name: "db", Lock: true}, {Name: "tape", Units: 2}, {Name: "net", Lock: true}})
}

// busy is that office, of which all is held by many.
func busy(t *testing.T) *pool.Pool {
	t.Helper()
	p := office()
	for owner, l := range map[int64][]jdl.Need{
		math.MinInt64: needs(some("cpu", 1)), -1: needs(some("cpu", 1)), 0: needs(some("cpu", 1), some("tape", 1)),
		1: needs(some("cpu", 1), sharing("net")), 2: needs(some("tape", 1), sharing("net")), math.MaxInt64: needs(alone("db")),
	} {
		if e := p.Take(owner, l); e != api.OK {
			t.Fatal("Take", owner, l, e)
		}
	}
	return p
}

func bothWays(t *testing.T, p *pool.Pool, want bool, a, b []jdl.Need) {
	t.Helper()
	if Both(p, a, b) != want || Both(p, b, a) != want {
		t.Error("Both", a, b, Both(p, a, b), Both(p, b, a), "not", want)
	}
}

func TestExample(t *testing.T) { // P14.1, P14.2
	p := pool.New([]jdl.Res{{Name: "cpu", Units: 4}})
	bothWays(t, p, false, needs(some("cpu", 3)), needs(some("cpu", 2)))
	bothWays(t, p, true, needs(some("cpu", 3)), needs(some("cpu", 1)))
	if s := Text(needs(some("cpu", 3), sharing("db"))); s != "cpu:3 db:s" {
		t.Error("Text", s)
	}
}

func TestFits(t *testing.T) { // P14.1, P6
	for _, x := range []struct {
		want api.Errno
		l    []jdl.Need
	}{
		{api.OK, nil},
		{api.OK, needs()},
		{api.OK, needs(some("cpu", 1))},
		{api.OK, needs(some("cpu", 4), some("tape", 2), alone("db"), sharing("net"))},
		{api.OK, needs(jdl.Need{Name: "db", N: -9, Mode: 2})},
		{api.ErrHeld, needs(some("cpu", 5))},
		{api.ErrHeld, needs(some("cpu", api.MaxUnits))},
		{api.ErrHeld, needs(some("cpu", 4), some("tape", 3))},
		{api.ErrName, needs(some("x", 1))},
		{api.ErrName, needs(some("CPU", 1))},
		{api.ErrName, needs(some("cpu", 5), some("x", 0))},
		{api.ErrArg, needs(some("cpu", 0))},
		{api.ErrArg, needs(some("cpu", -1))},
		{api.ErrArg, needs(some("cpu", math.MinInt64))},
		{api.ErrArg, needs(some("cpu", api.MaxUnits+1))},
		{api.ErrArg, needs(some("cpu", math.MaxInt64))},
		{api.ErrArg, needs(sharing("cpu"))},
		{api.ErrArg, needs(some("db", 1))},
		{api.ErrArg, needs(jdl.Need{Name: "db", Mode: 3})},
		{api.ErrArg, needs(jdl.Need{Name: "cpu", N: 1, Mode: -1})},
		{api.ErrArg, needs(some("cpu", 1), some("cpu", 0))},
		{api.ErrTwice, needs(some("cpu", 1), some("cpu", 1))},
		{api.ErrTwice, needs(sharing("db"), some("cpu", 5), alone("db"), some("x", 1))},
	} {
		for _, p := range []*pool.Pool{office(), busy(t)} {
			ahead := p.List()
			if e := Fits(p, x.l); e != x.want {
				t.Error("Fits", x.l, e, "not", x.want)
			}
			if !slices.Equal(p.List(), ahead) {
				t.Error("Fits changes the pool", p.List(), ahead)
			}
		}
		if e := office().May(1, x.l); e != x.want {
			t.Error("May", x.l, e, "not", x.want)
		}
		if e := Fits(nil, x.l); e != api.ErrNil {
			t.Error("Fits of no pool", e)
		}
	}
}

func TestFitsAResizedPool(t *testing.T) { // P14.1
	p := busy(t)
	for _, units := range []int64{0, 1, 2, 4, 9} {
		if e := p.Resize("cpu", units); e != api.OK {
			t.Fatal("Resize", e)
		}
		for n := int64(1); n <= 10; n++ {
			want := api.OK
			if n > units {
				want = api.ErrHeld
			}
			if e := Fits(p, needs(some("cpu", n))); e != want {
				t.Error("Fits", n, "of", units, e)
			}
			bothWays(t, p, n+1 <= units, needs(some("cpu", n)), needs(some("cpu", 1)))
		}
	}
}

func TestBoth(t *testing.T) { // P14.1, P14.3
	for _, x := range []struct {
		want bool
		a, b []jdl.Need
	}{
		{true, nil, nil},
		{true, needs(), nil},
		{true, nil, needs(some("cpu", 4), alone("db"))},
		{true, needs(some("cpu", 2)), needs(some("cpu", 2))},
		{true, needs(some("cpu", 4)), needs(some("tape", 2))},
		{true, needs(sharing("db")), needs(sharing("db"))},
		{true, needs(alone("db")), needs(alone("net"))},
		{true, needs(some("cpu", 1), some("tape", 1), sharing("db")), needs(sharing("db"), some("tape", 1), some("cpu", 3))},
		{false, needs(some("cpu", 4)), needs(some("cpu", 1))},
		{false, needs(some("cpu", 1), some("tape", 2)), needs(some("tape", 1))},
		{false, needs(sharing("db")), needs(alone("db"))},
		{false, needs(alone("db")), needs(alone("db"))},
		{false, needs(some("cpu", 1), alone("net")), needs(some("cpu", 1), sharing("net"))},
		{false, nil, needs(some("cpu", 5))},
		{false, nil, needs(some("x", 1))},
		{false, nil, needs(some("cpu", 0))},
		{false, nil, needs(sharing("db"), sharing("db"))},
		{false, needs(some("cpu", 1)), needs(sharing("cpu"))},
		{false, needs(some("x", 1)), needs(some("x", 1))},
	} {
		for _, p := range []*pool.Pool{office(), busy(t)} {
			ahead := p.List()
			bothWays(t, p, x.want, x.a, x.b)
			if !slices.Equal(p.List(), ahead) {
				t.Error("Both changes the pool", p.List(), ahead)
			}
		}
		bothWays(t, nil, false, x.a, x.b)
	}
}

func TestTotal(t *testing.T) { // P14.2
	const most = 4096000
	for _, x := range []struct {
		want int64
		l    []int64
	}{
		{0, nil},
		{0, []int64{0}},
		{6, []int64{1, 2, 3}},
		{most - 1, []int64{most - 1}},
		{most, []int64{most}},
		{most, []int64{most + 1}},
		{most, []int64{most - 1, 1}},
		{most, []int64{most - 1, 2}},
		{most, []int64{most, most}},
		{most, []int64{math.MaxInt64}},
		{most, []int64{1, math.MaxInt64}},
		{most, []int64{most, math.MaxInt64, math.MaxInt64}},
		{0, []int64{-1}},
		{0, []int64{math.MinInt64}},
		{0, []int64{5, -6}},
		{0, []int64{1, math.MinInt64}},
		{0, []int64{math.MinInt64, math.MinInt64}},
		{0, []int64{math.MaxInt64, math.MinInt64}},
		{0, []int64{math.MaxInt64, -most}},
		{1, []int64{math.MaxInt64, 1 - most}},
		{most, []int64{math.MinInt64, math.MaxInt64}},
		{most, []int64{-most, most}},
		{2, []int64{5, -3}},
		{3, []int64{5, -10, 3}},
		{most - 2, []int64{most, 7, -2}},
	} {
		var l []pool.Held
		for _, n := range x.l {
			l = append(l, held("cpu", n, 0), held("tape", 1, 0), held("cpu", n, 5))
		}
		if n, s, e := Total(l, "cpu"); n != x.want || s != 0 || e != 0 {
			t.Error("Total", x.l, n, s, e, "not", x.want)
		}
	}
}

func TestTotalOfModes(t *testing.T) { // P14.2
	l := []pool.Held{
		held("db", 0, 1), held("db", 7, 1), held("db", -7, 1), held("db", 0, 2), held("db", 9, 2), held("db", 3, 0), held("db", 4, 0),
		held("db", 9, 3), held("db", 9, -1), held("db", 9, math.MinInt), held("db", 9, math.MaxInt), held("db", 9, 256),
		held("DB", 5, 0), held("", 8, 0), held("", 8, 2),
	}
	for _, x := range []struct {
		name              string
		units, first, two int64
	}{{"db", 7, 3, 2}, {"DB", 5, 0, 0}, {"", 8, 0, 1}, {"x", 0, 0, 0}, {"db ", 0, 0, 0}} {
		if n, s, e := Total(l, x.name); n != x.units || s != x.first || e != x.two {
			t.Error("Total", x.name, n, s, e)
		}
		if n, s, e := Total(nil, x.name); n != 0 || s != 0 || e != 0 {
			t.Error("Total of none", n, s, e)
		}
	}
}

func TestTotalOfAPool(t *testing.T) { // P14.2
	p := busy(t)
	for name, want := range map[string][3]int64{"cpu": {4, 0, 0}, "tape": {2, 0, 0}, "net": {0, 2, 0}, "db": {0, 0, 1}, "x": {}} {
		n, s, e := Total(p.List(), name)
		if [3]int64{n, s, e} != want {
			t.Error("Total", name, n, s, e, "not", want)
		}
	}
	if n, _, _ := Total((*pool.Pool)(nil).List(), "cpu"); n != 0 {
		t.Error("Total of no pool", n)
	}
}

func TestSorted(t *testing.T) { // P14.2
	names := []string{"", "\x00", "A", "Z", "a", "a\x00", "a_1", "aa", "b", "\x80", "é", "\xff"}
	var want, l []jdl.Need
	for i, name := range names {
		for k := range 30 {
			want = append(want, jdl.Need{Name: name, N: int64(30 - k), Mode: (i + k) % 3})
		}
	}
	for k := range 30 {
		for i := range names {
			l = append(l, want[(len(names)-1-i)*30+k])
		}
	}
	ahead := slices.Clone(l)
	if got := Sorted(l); !slices.Equal(got, want) {
		t.Error("Sorted", got)
	}
	if !slices.Equal(l, ahead) {
		t.Error("Sorted changes its list")
	}
	if len(Sorted(nil)) != 0 || len(Sorted(needs())) != 0 {
		t.Error("Sorted of none")
	}
}

func TestSortedIsItsOwn(t *testing.T) { // rules 4 and 5
	l := needs(some("a", 1), some("b", 2))
	told, other := Sorted(l), Sorted(l)
	told[0] = some("x", 9)
	_ = append(told[:1], some("y", 9))
	_ = append(told, some("z", 9))
	if want := needs(some("a", 1), some("b", 2)); !slices.Equal(l, want) || !slices.Equal(other, want) {
		t.Error("the lists share memory", l, other)
	}
	l[1] = some("c", 3)
	if !slices.Equal(other, needs(some("a", 1), some("b", 2))) {
		t.Error("the lists share memory", other)
	}
	part := l[:1]
	_ = append(Sorted(part), some("q", 9))
	if l[1] != some("c", 3) {
		t.Error("the lists share memory", l)
	}
}

func TestText(t *testing.T) { // P14.2
	for _, x := range []struct {
		want string
		l    []jdl.Need
	}{
		{"", nil},
		{"", needs()},
		{":0", needs(jdl.Need{})},
		{"a:0", needs(some("a", 0))},
		{"a:1", needs(some("a", 1))},
		{"a:1000", needs(some("a", 1000))},
		{"a:1001", needs(some("a", 1001))},
		{"a:9223372036854775807", needs(some("a", math.MaxInt64))},
		{"a:?", needs(some("a", -1))},
		{"a:?", needs(some("a", math.MinInt64))},
		{"a:s", needs(jdl.Need{Name: "a", N: 7, Mode: 1})},
		{"a:s", needs(jdl.Need{Name: "a", N: -7, Mode: 1})},
		{"a:x", needs(jdl.Need{Name: "a", N: 7, Mode: 2})},
		{"a:?", needs(jdl.Need{Name: "a", N: 7, Mode: 3})},
		{"a:?", needs(jdl.Need{Name: "a", N: 7, Mode: -1})},
		{"a:?", needs(jdl.Need{Name: "a", N: 7, Mode: math.MinInt})},
		{"a:?", needs(jdl.Need{Name: "a", N: 7, Mode: math.MaxInt})},
		{"b:x a:s b:3 :? \xff:10", needs(alone("b"), sharing("a"), some("b", 3), some("", -3), some("\xff", 10))},
		{"a b:1 c:d:2", needs(some("a b", 1), some("c:d", 2))},
	} {
		if s := Text(x.l); s != x.want {
			t.Error("Text", x.l, s, "not", x.want)
		}
	}
	if s := Text(slices.Repeat(needs(some(strings.Repeat("x", 99), 10)), 5000)); len(s) != 5000*103-1 {
		t.Error("Text", len(s))
	}
}
