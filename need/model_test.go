package need

import (
	"math"
	"math/big"
	"math/rand"
	"slices"
	"strconv"
	"strings"
	"testing"

	"dayshift/api"
	"dayshift/jdl"
	"dayshift/pool"
)

func anyNeeds(r *rand.Rand) []jdl.Need {
	var l []jdl.Need
	for range r.Intn(5) {
		n := jdl.Need{Name: []string{"cpu", "tape"}[r.Intn(2)], N: 1 + r.Int63n(3)}
		if r.Intn(2) == 0 {
			n = jdl.Need{Name: []string{"db", "net"}[r.Intn(2)], Mode: 1 + r.Intn(2)}
		}
		if r.Intn(20) == 0 {
			n.N, n.Mode = r.Int63n(1200)-100, r.Intn(5)-1
		}
		if r.Intn(40) == 0 {
			n.Name = "x"
		}
		if !slices.ContainsFunc(l, func(o jdl.Need) bool { return o.Name == n.Name }) || r.Intn(20) == 0 {
			l = append(l, n)
		}
	}
	return l
}

// anyPool is an office of some cpus, of which some is held.
func anyPool(r *rand.Rand) *pool.Pool {
	p := office()
	p.Resize("cpu", r.Int63n(6))
	for owner := range r.Int63n(5) {
		p.Take(owner, anyNeeds(r))
	}
	p.Resize("tape", r.Int63n(4))
	return p
}

// modelFits goes through needs twice: may they be, and are there so many units?
func modelFits(p *pool.Pool, l []jdl.Need) api.Errno {
	for i, n := range l {
		isUnits := n.Name == "cpu" || n.Name == "tape"
		if !isUnits && n.Name != "db" && n.Name != "net" {
			return api.ErrName
		}
		if isUnits != (n.Mode == 0) || n.Mode < 0 || n.Mode > 2 || isUnits && (n.N < 1 || n.N > 1000) {
			return api.ErrArg
		}
		for _, ahead := range l[:i] {
			if ahead.Name == n.Name {
				return api.ErrTwice
			}
		}
	}
	for _, n := range l {
		if units, e := p.Units(n.Name); e == api.OK && n.N > units {
			return api.ErrHeld
		}
	}
	return api.OK
}

// modelBoth holds each need of one against each of the other.
func modelBoth(p *pool.Pool, a, b []jdl.Need) bool {
	if modelFits(p, a) != api.OK || modelFits(p, b) != api.OK {
		return false
	}
	for _, n := range a {
		for _, o := range b {
			units, _ := p.Units(n.Name)
			if n.Name == o.Name && (n.Mode == 0 && n.N+o.N > units || n.Mode+o.Mode > 2) {
				return false
			}
		}
	}
	return true
}

func TestAnyNeeds(t *testing.T) { // P14.1, P14.3, P14.4
	answers, boths := map[api.Errno]int{}, map[bool]int{}
	r := rand.New(rand.NewSource(1))
	for range 20000 {
		p, a, b := anyPool(r), anyNeeds(r), anyNeeds(r)
		ahead := p.List()
		want := modelFits(p, a)
		if e := Fits(p, a); e != want {
			t.Fatal("Fits", a, e, want)
		}
		answers[want]++
		both := Both(p, a, b)
		if both != modelBoth(p, a, b) || both != Both(p, b, a) {
			t.Fatal("Both", a, b, both)
		}
		boths[both]++
		if want != api.OK && both {
			t.Fatal("what does not fit goes with something", a, b)
		}
		if e := Fits(p, Sorted(a)); (e == api.OK) != (want == api.OK) {
			t.Fatal("Fits of Sorted", a, e, want)
		}
		if !slices.Equal(p.List(), ahead) {
			t.Fatal("the pool has changed", p.List(), ahead)
		}
	}
	for _, e := range []api.Errno{api.OK, api.ErrName, api.ErrArg, api.ErrTwice, api.ErrHeld} {
		if answers[e] < 100 {
			t.Error("too few of", e, answers[e])
		}
	}
	if boths[true] < 1000 || boths[false] < 1000 {
		t.Error("too few of", boths)
	}
}

// modelTotal adds with numbers that have no end.
func modelTotal(l []pool.Held, name string) int64 {
	sum, most := big.NewInt(0), big.NewInt(4096000)
	for _, h := range l {
		if h.Name != name || h.Mode != 0 {
			continue
		}
		sum.Add(sum, big.NewInt(h.N))
		if sum.Sign() < 0 {
			sum.SetInt64(0)
		}
		if sum.Cmp(most) > 0 {
			sum.Set(most)
		}
	}
	return sum.Int64()
}

func TestAnyTotal(t *testing.T) { // P14.2
	r := rand.New(rand.NewSource(1))
	for range 20000 {
		var l []pool.Held
		for range r.Intn(12) {
			n := r.Int63n(4000000) - 1000000
			if r.Intn(6) == 0 {
				n = []int64{math.MinInt64, math.MinInt64 + 1, math.MaxInt64, math.MaxInt64 - 4096000, -4096000, 4096001}[r.Intn(6)]
			}
			l = append(l, pool.Held{Owner: r.Int63n(3), Name: []string{"a", "b"}[r.Intn(2)], N: n, Mode: max(0, r.Intn(8)-4)})
		}
		counts := map[int]int64{}
		for _, h := range l {
			if h.Name == "a" {
				counts[h.Mode]++
			}
		}
		if n, s, x := Total(l, "a"); n != modelTotal(l, "a") || s != counts[1] || x != counts[2] {
			t.Fatal("Total", l, n, s, x, modelTotal(l, "a"), counts)
		}
	}
}

// TestTextIsRead reads a text again, word by word.
func TestTextIsRead(t *testing.T) { // P14.2
	r := rand.New(rand.NewSource(1))
	for range 5000 {
		l := anyNeeds(r)
		words := strings.Fields(Text(l))
		if len(words) != len(l) {
			t.Fatal("Text", l, words)
		}
		for i, n := range l {
			name, what, _ := strings.Cut(words[i], ":")
			k, err := strconv.ParseInt(what, 10, 64)
			isDigits := err == nil && k == n.N && n.Mode == 0
			isMode := what == "s" && n.Mode == 1 || what == "x" && n.Mode == 2
			isNone := what == "?" && (n.Mode == 0 && n.N < 0 || n.Mode < 0 || n.Mode > 2)
			if name != n.Name || !isDigits && !isMode && !isNone {
				t.Fatal("Text", n, words[i])
			}
		}
	}
}
