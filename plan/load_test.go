package plan

import (
	"math"
	"slices"
	"testing"

	"dayshift/api"
	"dayshift/job"
)

func checkLoad(t *testing.T, l []job.State, day, id, run int64, want api.Errno) {
	t.Helper()
	was := slices.Clone(l)
	p, e := Load(l, day, id, run)
	if e != want || (p == nil) != (want != api.OK) {
		t.Error("Load", l, day, id, run, p, e, "not", want)
	}
	if !slices.Equal(l, was) {
		t.Error("Load changes its list", l)
	}
	if e == api.OK {
		slices.SortFunc(was, func(a, b job.State) int { return int(a.Id - b.Id) })
		checkAll(t, p, was, day, id, run)
	}
}

// wrongStates are some that can not be.
var wrongStates = []job.State{{}, {Id: 1}, {Id: 1, Day: 1, Run: 3}, {Id: 1, Day: 1, State: api.Run}, {Id: 0, Day: 1}, {Id: 1, Day: 1, Hold: true, Force: true}, {Id: 1 << 31, Day: 1}, {Id: 1, Day: 1, State: -1}}

func many(n int) []job.State {
	var l []job.State
	for i := range n {
		l = append(l, job.State{Id: int64(i + 1), Day: 1})
	}
	return l
}

func TestLoad(t *testing.T) { // P18.3
	checkLoad(t, nil, 0, 1, 1, api.OK)
	checkLoad(t, []job.State{}, api.MaxDay, 1<<31, 1<<31, api.OK)
	checkLoad(t, many(api.MaxActive), 3, api.MaxActive+1, 1, api.OK)
	checkLoad(t, []job.State{runs(5, 2), {Id: 1, Day: api.MaxDay, Hold: true}, runs(2, 9), {Id: 4, Job: 47, Day: 2, State: api.Bad}}, 1, 6, 10, api.OK)
	checkLoad(t, []job.State{runs(lastNumber, lastNumber)}, 0, 1<<31, 1<<31, api.OK)
	checkLoad(t, []job.State{runs(1, 1), runs(2, 2)}, 0, 3, 3, api.OK)
}

func TestLoadOfTooMany(t *testing.T) { // P18.3
	checkLoad(t, many(api.MaxActive+1), 0, 100, 1, api.ErrSize)
	checkLoad(t, slices.Repeat([]job.State{{}}, api.MaxActive+1), -1, 0, 0, api.ErrSize)
	checkLoad(t, slices.Repeat([]job.State{{}}, api.MaxActive), -1, 0, 0, api.ErrArg)
}

func TestLoadOfWrongStates(t *testing.T) { // P18.3
	for _, wrong := range wrongStates {
		for _, day := range []int64{0, -1} {
			checkLoad(t, []job.State{wrong}, day, 5, 5, api.ErrArg)
			checkLoad(t, []job.State{{Id: 2, Day: 1}, {Id: 3, Day: 1}, wrong}, day, 5, 5, api.ErrArg)
			checkLoad(t, []job.State{wrong, {Id: 2, Day: 1}}, day, 1, 1, api.ErrArg)
		}
	}
	for _, twice := range [][]job.State{
		{{Id: 1, Day: 1}, {Id: 1, Day: 1}},
		{{Id: 1, Day: 1}, {Id: 2, Day: 1}, {Id: 1, Job: 5, Day: 2}},
		{runs(1, 3), runs(1, 4)},
		{runs(1, 3), runs(2, 3)},
		{runs(1, 3), {Id: 3, Day: 1}, runs(2, 3)},
		{runs(1, 3), runs(2, 4), runs(3, 4)},
	} {
		checkLoad(t, twice, 0, 9, 9, api.ErrArg)
		checkLoad(t, twice, -1, 0, 0, api.ErrArg)
	}
}

func TestLoadOfWrongNumbers(t *testing.T) { // P18.3
	l := []job.State{runs(5, 2), {Id: 3, Day: 1}}
	for _, day := range []int64{-1, api.MaxDay + 1, math.MinInt64, math.MaxInt64} {
		checkLoad(t, l, day, 6, 3, api.ErrRange)
		checkLoad(t, nil, day, 1, 1, api.ErrRange)
	}
	for _, n := range []int64{0, -1, 1<<31 + 1, 1 << 32, math.MinInt64, math.MaxInt64} {
		checkLoad(t, l, 0, n, 3, api.ErrRange)
		checkLoad(t, l, 0, 6, n, api.ErrRange)
		checkLoad(t, nil, 0, n, 1, api.ErrRange)
		checkLoad(t, nil, 0, 1, n, api.ErrRange)
	}
	checkLoad(t, l, 0, 6, 3, api.OK)
	checkLoad(t, l, 0, 5, 3, api.ErrRange)
	checkLoad(t, l, 0, 4, 3, api.ErrRange)
	checkLoad(t, l, 0, 6, 2, api.ErrRange)
	checkLoad(t, l, 0, 6, 1, api.ErrRange)
	checkLoad(t, []job.State{{Id: 3, Day: 1}, runs(5, 2)}, 0, 5, 3, api.ErrRange)
	checkLoad(t, []job.State{runs(lastNumber, 1)}, 0, lastNumber, 2, api.ErrRange)
	checkLoad(t, []job.State{runs(1, lastNumber)}, 0, 2, lastNumber, api.ErrRange)
}
