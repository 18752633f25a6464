package cal

import (
	"math"
	"testing"

	"dayshift/api"
)

var wrongDirs = []int{-2, 2, 3, -3, 10, 255, 256, 257, math.MinInt, math.MaxInt, math.MinInt + 1}

func TestShift(t *testing.T) { // P6.3
	work := week7(31)
	far := dates(100, 110, 121, 3652059)
	rows := []struct {
		work     Node
		dir      int
		day, end int64
		e        api.Errno
	}{
		{work, 1, on(2024, 3, 30), on(2024, 4, 1), api.OK}, {work, -1, on(2024, 3, 30), on(2024, 3, 29), api.OK}, {work, 0, on(2024, 3, 30), 0, api.ErrNone},
		{work, 1, on(2024, 3, 29), on(2024, 3, 29), api.OK}, {work, -1, on(2024, 3, 29), on(2024, 3, 29), api.OK}, {work, 0, on(2024, 3, 29), on(2024, 3, 29), api.OK},
		{far, 1, 101, 110, api.OK}, {far, 1, 111, 121, api.OK}, {far, 1, 90, 100, api.OK}, {far, 1, 89, 0, api.ErrNone}, {far, -1, 120, 110, api.OK}, {far, -1, 131, 121, api.OK}, {far, -1, 132, 0, api.ErrNone}, {far, -1, 99, 0, api.ErrNone}, {far, 1, 122, 0, api.ErrNone}, {far, 0, 101, 0, api.ErrNone},
		{dates(1, 11), -1, 5, 1, api.OK}, {dates(11), -1, 5, 0, api.ErrNone}, {dates(11), 1, 1, 11, api.OK}, {dates(12), 1, 1, 0, api.ErrNone}, {dates(1), -1, 11, 1, api.OK}, {dates(1), -1, 12, 0, api.ErrNone}, {dates(2), -1, 1, 0, api.ErrNone},
		{far, 1, 3652049, 3652059, api.OK}, {far, 1, 3652048, 0, api.ErrNone}, {dates(3652058), 1, 3652059, 0, api.ErrNone}, {dates(3652049), -1, 3652059, 3652049, api.OK},
		{week7(0), 1, 3652059, 0, api.ErrNone}, {week7(0), -1, 1, 0, api.ErrNone}, {month31(1), 1, on(2024, 2, 20), on(2024, 3, 1), api.OK}, {month31(-1), -1, on(2024, 3, 10), on(2024, 2, 29), api.OK},
	}
	for _, x := range rows {
		if end, e := Shift(nil, x.work, x.dir, x.day); end != x.end || e != x.e {
			t.Errorf("Shift %+v by %d of %d: %d %d", x.work, x.dir, x.day, end, e)
		}
	}
}

func TestDue(t *testing.T) { // P6.3, P4
	work := and(week7(31), not(dates(on(2024, 3, 29), on(2024, 4, 1))))
	end, begin := month31(-1), month31(1)
	rows := []struct {
		n, work Node
		dir     int
		day     int64
		want    bool
	}{
		{end, work, 1, on(2024, 4, 2), true}, {end, work, 1, on(2024, 3, 28), false}, {end, work, 1, on(2024, 4, 1), false}, {end, work, 1, on(2024, 3, 31), false},
		{end, work, -1, on(2024, 3, 28), true}, {end, work, -1, on(2024, 4, 2), false}, {end, work, -1, on(2024, 3, 27), false},
		{end, work, 0, on(2024, 3, 28), false}, {end, work, 0, on(2024, 4, 30), true}, {end, work, 1, on(2024, 4, 30), true}, {begin, work, -1, on(2024, 3, 28), true}, {begin, work, 1, on(2024, 4, 2), true},
		{dates(90), dates(100), 1, 100, true}, {dates(89), dates(100), 1, 100, false}, {dates(110), dates(100), -1, 100, true}, {dates(111), dates(100), -1, 100, false}, {dates(90), dates(100), -1, 100, false}, {dates(90, 110), dates(100), 0, 100, false},
		{dates(95), dates(95, 100), 1, 100, false}, {dates(94), dates(95, 100), 1, 100, false}, {dates(96), dates(95, 100), 1, 100, true}, {dates(105), dates(105, 100), -1, 100, false}, {dates(106), dates(105, 100), -1, 100, false},
		{dates(1), dates(1), 1, 1, true}, {dates(2), dates(1), -1, 1, true}, {dates(1), dates(11), 1, 11, true}, {dates(1), dates(5), 1, 5, true}, {dates(1), dates(2), -1, 2, false},
		{dates(3652059), dates(3652049), -1, 3652049, true}, {dates(3652059), dates(3652048), -1, 3652048, false}, {week7(127), dates(3652059), 1, 3652059, true}, {not(dates(3652059)), dates(3652059), 1, 3652059, true}, {not(dates(3652059)), dates(3652059), -1, 3652059, false}, {not(dates(1)), dates(1), 1, 1, false}, {not(dates(1)), dates(1), -1, 1, true},
	}
	for _, x := range rows {
		if is, e := Due(nil, x.n, x.work, x.dir, x.day); is != x.want || e != api.OK {
			t.Errorf("Due %+v to %+v by %d on %d: %t %d", x.n, x.work, x.dir, x.day, is, e)
		}
	}
}

func TestErrorsOfShiftAndDue(t *testing.T) { // P6.3, P6
	always := week7(127)
	for _, dir := range wrongDirs {
		for _, work := range []Node{always, week7(0)} {
			if to, e := Shift(nil, work, dir, 5); to != 0 || e != api.ErrArg {
				t.Error("Shift", dir, to, e)
			}
			if is, e := Due(nil, always, work, dir, 5); is || e != api.ErrArg {
				t.Error("Due", dir, is, e)
			}
		}
		for _, day := range wrongDays {
			if to, e := Shift(nil, always, dir, day); to != 0 || e != api.ErrRange {
				t.Error("Shift", dir, day, to, e)
			}
			if is, e := Due(nil, always, Node{}, dir, day); is || e != api.ErrRange {
				t.Error("Due: the day is n's error, ahead of work's", dir, day, is, e)
			}
		}
		if to, e := Shift(nil, ref("none"), dir, 5); to != 0 || e != api.ErrName {
			t.Error("Shift", dir, to, e)
		}
		if is, e := Due(nil, ref("none"), Node{}, dir, 5); is || e != api.ErrName {
			t.Error("Due: n's error ahead of work's", dir, is, e)
		}
		if is, e := Due(nil, always, ref("none"), dir, 5); is || e != api.ErrName {
			t.Error("Due: work's error ahead of dir's", dir, is, e)
		}
		if is, e := Due(nil, always, Node{}, dir, 5); is || e != api.ErrArg {
			t.Error("Due", dir, is, e)
		}
	}
	if is, e := Due(nil, tree(257), ref("none"), 1, 5); is || e != api.ErrDeep {
		t.Error("Due: n's error ahead of work's", is, e)
	}
	if is, e := Due(nil, tree(256), tree(256), 1, 5); !is || e != api.OK {
		t.Error("Due: each of both has nodes of its own", is, e)
	}
}

// known counts the days of a node near a day by the model, and makes a function that tells them.
func known(l []Cal, n Node, near int64) func(int64) bool {
	days := map[int64]bool{}
	for day := max(near-60, 1); day <= min(near+60, api.MaxDay); day++ {
		days[day] = modelIn(l, n, day)
	}
	return func(day int64) bool { return days[day] }
}

// modelShift goes from a day on as long as it may.
func modelShift(works func(int64) bool, dir int, day int64) (int64, api.Errno) {
	for i := range 11 {
		if to := day + int64(i*dir); to >= 1 && to <= api.MaxDay && works(to) {
			return to, api.OK
		}
	}
	return 0, api.ErrNone
}

// modelDue moves all days that may come there.
func modelDue(is, works func(int64) bool, dir int, day int64) bool {
	for from := max(day-12, 1); from <= min(day+12, api.MaxDay); from++ {
		if to, e := modelShift(works, dir, from); e == api.OK && to == day && is(from) {
			return true
		}
	}
	return false
}

func TestShiftAndDueOfAnyNodes(t *testing.T) { // P6.3, P6.5, P4
	yes, moved := 0, 0
	for seed := range int64(1500) {
		r := newMaker(seed)
		if seed%7 == 0 {
			r.near = []int64{1, api.MaxDay}[seed%2]
		}
		l := r.cals()
		n, work := r.node(2, r.names), r.node(2, r.names)
		if modelError(l, n) != api.OK || modelError(l, work) != api.OK {
			continue
		}
		is, works := known(l, n, r.near), known(l, work, r.near)
		for range 20 {
			day := min(max(r.near+r.Int63n(60)-30, 1), api.MaxDay)
			for dir := -1; dir <= 1; dir++ {
				want, wantError := modelShift(works, dir, day)
				if to, e := Shift(l, work, dir, day); to != want || e != wantError {
					t.Fatal("Shift", seed, dir, day, to, e)
				}
				wantDue := modelDue(is, works, dir, day)
				if got, e := Due(l, n, work, dir, day); got != wantDue || e != api.OK {
					t.Fatal("Due", seed, dir, day, got, e)
				}
				if wantDue && !works(day) || dir == 0 && wantDue != (is(day) && works(day)) {
					t.Fatal("due on no day of work, or with dir 0 on another one", seed, dir, day)
				}
				if wantDue {
					yes++
				}
				if wantDue && !is(day) {
					moved++
				}
			}
		}
	}
	if yes < 500 || moved < 500 {
		t.Error("due too seldom", yes, moved)
	}
}
