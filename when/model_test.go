package when

import (
	"math/big"
	"math/rand"
	"testing"

	"dayshift/api"
)

// edges are minutes beside which windows begin and end.
var edges = []int64{0, 1, 2, 5, 59, 60, 61, 719, 720, 1320, 1437, 1438, 1439}

// minutesOf walks from a window's first minute to its last one, and marks what it passes.
func minutesOf(from, to int64) [1440]bool {
	var open [1440]bool
	for min := from; ; min = (min + 1) % 1440 {
		open[min] = true
		if min == to {
			return open
		}
	}
}

func TestEachMinute(t *testing.T) { // P15.1
	for _, from := range edges {
		for _, to := range edges {
			open := minutesOf(from, to)
			count := int64(0)
			for min := range int64(1440) {
				if Open(from, to, min) != open[min] {
					t.Fatal("Open", from, to, min)
				}
				if open[min] {
					count++
				}
			}
			if n := Long(from, to); n != count {
				t.Fatal("Long", from, to, n, count)
			}
		}
	}
}

// TestEachWindow counts how long each window is by that which ends a minute ahead of it.
func TestEachWindow(t *testing.T) { // P15.1
	for from := range int64(1440) {
		to := from
		for count := int64(1); count <= 1440; count++ {
			if n := Long(from, to); n != count {
				t.Fatal("Long", from, to, n, count)
			}
			to = (to + 1) % 1440
		}
	}
}

// modelNext goes from clock to clock, till one can not be.
func modelNext(open [1440]bool, clock int64) (int64, api.Errno) {
	for ; clock <= api.MaxClock; clock++ {
		if open[clock%1440] {
			return clock, api.OK
		}
	}
	return 0, api.ErrRange
}

// modelLeft goes from clock to clock, for a day at most.
func modelLeft(open [1440]bool, clock int64) (int64, api.Errno) {
	if !open[clock%1440] {
		return 0, api.ErrState
	}
	n := int64(0)
	for n < 1440 && open[(clock+n)%1440] {
		n++
	}
	return n, api.OK
}

func checkClock(t *testing.T, from, to, clock int64) {
	t.Helper()
	open := minutesOf(from, to)
	want, wantError := modelNext(open, clock)
	if n, e := Next(from, to, clock); n != want || e != wantError {
		t.Fatal("Next", from, to, clock, n, e, "not", want, wantError)
	}
	want, wantError = modelLeft(open, clock)
	if n, e := Left(from, to, clock); n != want || e != wantError {
		t.Fatal("Left", from, to, clock, n, e, "not", want, wantError)
	}
}

func TestClocksBesideEdges(t *testing.T) { // P15.2, P15.5
	for _, from := range edges {
		for _, to := range edges {
			for _, day := range []int64{1, 2, 730179, api.MaxDay - 1, api.MaxDay} {
				for _, min := range edges {
					checkClock(t, from, to, day*1440+min)
				}
			}
		}
	}
}

func TestAnyClock(t *testing.T) { // P15.2, P15.5
	r := rand.New(rand.NewSource(1))
	for range 20000 {
		from, to := r.Int63n(1440), r.Int63n(1440)
		if r.Intn(4) == 0 {
			to = (from + 1438 + r.Int63n(4)) % 1440
		}
		day := 1 + r.Int63n(api.MaxDay)
		if r.Intn(4) == 0 {
			day = api.MaxDay - r.Int63n(2)
		}
		checkClock(t, from, to, day*1440+r.Int63n(1440))
	}
}

func TestNextIsTheFirstThatIsOpen(t *testing.T) { // P15.5
	for _, from := range edges {
		for _, to := range edges {
			for clock := int64(5 * 1440); clock < 6*1440; clock += 31 {
				next, e := Next(from, to, clock)
				if e != api.OK || !Open(from, to, next%1440) {
					t.Fatal("not open at Next", from, to, clock, next, e)
				}
				for between := clock; between < next; between++ {
					if Open(from, to, between%1440) {
						t.Fatal("open ahead of Next", from, to, clock, between, next)
					}
				}
			}
		}
	}
}

func TestTheRestOfAWindow(t *testing.T) { // P15.4
	for _, from := range edges {
		for _, to := range edges {
			behind, ahead := (to+1)%1440, (from+1439)%1440
			isAlways := Long(from, to) == 1440
			if !isAlways && Long(from, to)+Long(behind, ahead) != 1440 {
				t.Fatal("Long", from, to)
			}
			for min := range int64(1440) {
				here, there := Open(from, to, min), Open(behind, ahead, min)
				if here == there && !isAlways || !here && isAlways {
					t.Fatal("Open", from, to, min, here, there)
				}
			}
		}
	}
}

func TestAnyLater(t *testing.T) { // P15.3
	r := rand.New(rand.NewSource(1))
	most := big.NewInt(api.MaxClock)
	for range 20000 {
		clock, min := int64(r.Uint64())>>r.Intn(64), int64(r.Uint64())>>r.Intn(64)
		want := new(big.Int).Add(big.NewInt(clock), big.NewInt(min))
		if want.Cmp(most) > 0 {
			want = most
		}
		if min < 0 {
			want = big.NewInt(clock)
		}
		if n := Later(clock, min); n != want.Int64() {
			t.Fatal("Later", clock, min, n, want)
		}
	}
}
