package when

import (
	"math"
	"testing"

	"dayshift/api"
)

var wrongMinutes = []int64{-1, 1440, 1441, -1439, -1440, 2879, math.MinInt64, math.MinInt64 + 1, math.MaxInt64, math.MaxInt64 - 1, math.MinInt32, math.MaxInt32}

var wrongClocks = []int64{0, 1, -1, 1439, -1440, -7200, api.MaxClock + 1, api.MaxClock + 1440, -api.MaxClock, math.MinInt64, math.MinInt64 + 1, math.MaxInt64, math.MaxInt64 - 1}

// always are windows that are open at all minutes.
var always = [][2]int64{{0, 1439}, {1, 0}, {5, 4}, {720, 719}, {1438, 1437}, {1439, 1438}}

func TestExample(t *testing.T) { // P15.1, P15.2
	if !Open(1320, 120, 60) {
		t.Error("22:00 to 2:00 is not open at 1:00")
	}
	for _, day := range []int64{1, 5, api.MaxDay} {
		if n, e := Next(1320, 120, day*1440+180); n != day*1440+1320 || e != api.OK {
			t.Error("Next", day, n, e)
		}
		if n, e := Left(1320, 120, day*1440+1380); n != 181 || e != api.OK {
			t.Error("Left", day, n, e)
		}
	}
}

func TestOpen(t *testing.T) { // P15.1
	for _, x := range []struct {
		from, to, min int64
		want          bool
	}{
		{60, 120, 59, false}, {60, 120, 60, true}, {60, 120, 61, true}, {60, 120, 119, true}, {60, 120, 120, true}, {60, 120, 121, false}, {60, 120, 0, false}, {60, 120, 1439, false},
		{1320, 120, 1319, false}, {1320, 120, 1320, true}, {1320, 120, 1439, true}, {1320, 120, 0, true}, {1320, 120, 120, true}, {1320, 120, 121, false}, {1320, 120, 720, false},
		{5, 5, 4, false}, {5, 5, 5, true}, {5, 5, 6, false}, {0, 0, 0, true}, {0, 0, 1, false}, {0, 0, 1439, false}, {1439, 1439, 1439, true}, {1439, 1439, 0, false}, {1439, 1439, 1438, false},
		{1439, 0, 1439, true}, {1439, 0, 0, true}, {1439, 0, 1, false}, {1439, 0, 1438, false},
		{6, 4, 5, false}, {6, 4, 4, true}, {6, 4, 6, true}, {0, 1438, 1439, false}, {1, 1439, 0, false},
	} {
		if is := Open(x.from, x.to, x.min); is != x.want {
			t.Error("Open", x, is)
		}
	}
	for _, w := range always {
		for min := range int64(1440) {
			if !Open(w[0], w[1], min) {
				t.Error("Open", w, min)
			}
		}
	}
}

func TestLong(t *testing.T) { // P15.1
	for _, x := range [][3]int64{{60, 120, 61}, {1320, 120, 241}, {5, 5, 1}, {0, 0, 1}, {1439, 1439, 1}, {1439, 0, 2}, {6, 4, 1439}, {0, 1438, 1439}, {1, 1439, 1439}, {2, 0, 1439}} {
		if n := Long(x[0], x[1]); n != x[2] {
			t.Error("Long", x, n)
		}
	}
	for _, w := range always {
		if n := Long(w[0], w[1]); n != 1440 {
			t.Error("Long", w, n)
		}
	}
}

func TestMinutesThatAreNone(t *testing.T) { // P15.1, P15.2, P6
	clocks := append([]int64{1440, 5*1440 + 60, api.MaxClock}, wrongClocks...)
	for _, wrong := range wrongMinutes {
		for _, other := range append([]int64{0, 60, 1439}, wrongMinutes...) {
			if Open(wrong, other, 0) || Open(other, wrong, 0) || Open(wrong, other, other) || Open(other, wrong, wrong) || Open(wrong, wrong, wrong) {
				t.Error("Open", wrong, other)
			}
			if Long(wrong, other) != 0 || Long(other, wrong) != 0 {
				t.Error("Long", wrong, other)
			}
			for _, clock := range clocks {
				refused(t, wrong, other, clock, api.ErrArg)
				refused(t, other, wrong, clock, api.ErrArg)
			}
		}
		for _, w := range append([][2]int64{{60, 120}, {1320, 120}, {0, 0}}, always...) {
			if Open(w[0], w[1], wrong) {
				t.Error("Open", w, wrong)
			}
		}
	}
}

// refused asks for an error of both Next and Left.
func refused(t *testing.T, from, to, clock int64, want api.Errno) {
	t.Helper()
	if n, e := Next(from, to, clock); n != 0 || e != want {
		t.Error("Next", from, to, clock, n, e, "not", want)
	}
	if n, e := Left(from, to, clock); n != 0 || e != want {
		t.Error("Left", from, to, clock, n, e, "not", want)
	}
}

func TestClocksThatCanNotBe(t *testing.T) { // P15.2, P6
	for _, clock := range wrongClocks {
		for _, w := range append([][2]int64{{60, 120}, {1320, 120}, {0, 0}, {1439, 1439}}, always...) {
			refused(t, w[0], w[1], clock, api.ErrRange)
		}
	}
}

func TestNext(t *testing.T) { // P15.2
	const day = 5 * 1440
	for _, x := range [][4]int64{
		{60, 120, day, day + 60}, {60, 120, day + 59, day + 60}, {60, 120, day + 60, day + 60}, {60, 120, day + 120, day + 120}, {60, 120, day + 121, day + 1440 + 60}, {60, 120, day + 1439, day + 1440 + 60},
		{1320, 120, day, day}, {1320, 120, day + 120, day + 120}, {1320, 120, day + 121, day + 1320}, {1320, 120, day + 1319, day + 1320}, {1320, 120, day + 1320, day + 1320}, {1320, 120, day + 1439, day + 1439},
		{5, 5, day + 5, day + 5}, {5, 5, day + 6, day + 1440 + 5}, {5, 5, day + 4, day + 5}, {0, 0, day + 1, day + 1440}, {1439, 1439, day, day + 1439}, {0, 1438, day + 1439, day + 1440}, {6, 4, day + 5, day + 6},
		{0, 0, 1440, 1440}, {0, 0, 1441, 2880}, {1439, 1439, 1440, 2879},
	} {
		if n, e := Next(x[0], x[1], x[2]); n != x[3] || e != api.OK {
			t.Error("Next", x, n, e)
		}
	}
	for _, w := range always {
		for _, clock := range []int64{1440, 1441, day + 4, day + 5, day + 719, day + 1439, api.MaxClock - 1, api.MaxClock} {
			if n, e := Next(w[0], w[1], clock); n != clock || e != api.OK {
				t.Error("Next", w, clock, n, e)
			}
		}
	}
}

func TestNextOfTheLastDay(t *testing.T) { // P15.2
	const day = api.MaxDay * 1440
	for _, x := range [][4]int64{{60, 120, day, day + 60}, {60, 120, day + 120, day + 120}, {1320, 120, day + 121, day + 1320}, {1439, 1439, day, api.MaxClock}, {1439, 1439, api.MaxClock, api.MaxClock}, {1439, 0, api.MaxClock - 1, api.MaxClock}} {
		if n, e := Next(x[0], x[1], x[2]); n != x[3] || e != api.OK {
			t.Error("Next", x, n, e)
		}
	}
	for _, x := range [][3]int64{{60, 120, day + 121}, {60, 120, api.MaxClock}, {0, 0, day + 1}, {0, 0, api.MaxClock}, {0, 1438, api.MaxClock}, {1438, 1438, api.MaxClock}} {
		if n, e := Next(x[0], x[1], x[2]); n != 0 || e != api.ErrRange {
			t.Error("Next", x, n, e)
		}
	}
}

func TestLeft(t *testing.T) { // P15.2
	for _, day := range []int64{1440, 5 * 1440, api.MaxDay * 1440} {
		for _, x := range [][4]int64{
			{60, 120, 60, 61}, {60, 120, 61, 60}, {60, 120, 119, 2}, {60, 120, 120, 1},
			{1320, 120, 1320, 241}, {1320, 120, 1439, 122}, {1320, 120, 0, 121}, {1320, 120, 119, 2}, {1320, 120, 120, 1},
			{5, 5, 5, 1}, {0, 0, 0, 1}, {1439, 1439, 1439, 1}, {1439, 0, 1439, 2}, {1439, 0, 0, 1},
			{0, 1438, 0, 1439}, {0, 1438, 1438, 1}, {1, 1439, 1, 1439}, {1, 1439, 1439, 1}, {6, 4, 6, 1439}, {6, 4, 4, 1},
		} {
			if n, e := Left(x[0], x[1], day+x[2]); n != x[3] || e != api.OK {
				t.Error("Left", x, n, e)
			}
		}
		for _, x := range [][3]int64{{60, 120, 59}, {60, 120, 121}, {60, 120, 0}, {1320, 120, 121}, {1320, 120, 1319}, {5, 5, 4}, {5, 5, 6}, {0, 0, 1439}, {1439, 1439, 0}, {6, 4, 5}} {
			if n, e := Left(x[0], x[1], day+x[2]); n != 0 || e != api.ErrState {
				t.Error("Left", x, n, e)
			}
		}
		for _, w := range always {
			for min := range int64(1440) {
				if n, e := Left(w[0], w[1], day+min); n != 1440 || e != api.OK {
					t.Error("Left", w, day, min, n, e)
				}
			}
		}
	}
}

func TestLater(t *testing.T) { // P15.3, P6
	const most = api.MaxClock
	for _, x := range [][3]int64{
		{1440, 0, 1440}, {1440, 1, 1441}, {5000, 30, 5030}, {0, 0, 0}, {0, 7, 7}, {-5, 3, -2}, {-5, 5, 0}, {-5, 6, 1},
		{most - 1, 0, most - 1}, {most - 1, 1, most}, {most - 1, 2, most}, {most - 1, 5, most}, {most, 0, most}, {most, 1, most}, {0, most, most}, {0, most - 1, most - 1}, {0, most + 1, most}, {1, most, most},
		{most + 1, 0, most}, {most + 1, 1, most}, {math.MaxInt64, 0, most}, {math.MaxInt64, 1, most}, {math.MaxInt64, math.MaxInt64, most}, {math.MaxInt64 - 1, 1, most}, {5, math.MaxInt64, most}, {0, math.MaxInt64, most}, {-1, math.MaxInt64, most},
		{math.MinInt64, math.MaxInt64, -1}, {math.MinInt64, 0, math.MinInt64}, {math.MinInt64, 1, math.MinInt64 + 1}, {math.MinInt64 + 1, math.MaxInt64, 0}, {-most, 2 * most, most}, {-most, 2*most + 1, most}, {-most, 2*most - 1, most - 1},
		{1440, -1, 1440}, {0, -1, 0}, {-7, -1, -7}, {most, -1, most}, {5000, math.MinInt64, 5000}, {math.MinInt64, math.MinInt64, math.MinInt64}, {math.MinInt64, -1, math.MinInt64}, {most + 1, -1, most + 1}, {math.MaxInt64, math.MinInt64, math.MaxInt64},
	} {
		if n := Later(x[0], x[1]); n != x[2] {
			t.Error("Later", x, n)
		}
	}
}
