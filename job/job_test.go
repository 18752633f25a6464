package job

import (
	"math"
	"testing"

	"dayshift/api"
	"dayshift/jdl"
)

var wrongNumbers = []int64{0, -1, 1 << 31, 1<<31 + 1, 1<<32 + 1, math.MinInt64, math.MaxInt64}

var wrongClocks = []int64{-1, api.MaxClock + 1, math.MinInt64, math.MaxInt64}

// waits, runs, ended and broken are one job at four points of its way.
var (
	waits  = State{Id: 3, Job: 2, Day: 5, At: 7200}
	runs   = State{Id: 3, Job: 2, Day: 5, State: api.Run, Runs: 1, Tries: 1, Run: 9, At: 7200}
	ended  = State{Id: 3, Job: 2, Day: 5, State: api.Good, Runs: 1, At: 7200}
	broken = State{Id: 3, Job: 2, Day: 5, State: api.Bad, Runs: 2, Tries: 1, At: 7200}
)

// with tells a state that is changed a bit.
func with(s State, change func(*State)) State {
	change(&s)
	return s
}

func held(s State) State   { s.Hold = true; return s }
func forced(s State) State { s.Force = true; return s }

// check asks that a step answers what is wanted.
func check(t *testing.T, what string, got State, e api.Errno, want State, wantError api.Errno) {
	t.Helper()
	if got != want || e != wantError {
		t.Error(what, got, e, "not", want, wantError)
	}
}

// refused asks that a step is refused, with nothing beside the error.
func refused(t *testing.T, what string, got State, e api.Errno, wantError api.Errno) {
	t.Helper()
	check(t, what, got, e, State{}, wantError)
}

func TestExample(t *testing.T) { // P17.1
	once := jdl.Job{Runs: 1, Retry: 1}
	a, _ := Submit(waits, 1)
	b, e := Done(a, once, 1, 7205)
	check(t, "Done", b, e, State{Id: 3, Job: 2, Day: 5, Runs: 1, Tries: 1, At: 7205}, api.OK)
	a, _ = Submit(b, 2)
	b, e = Done(a, once, 1, 7206)
	check(t, "Done", b, e, State{Id: 3, Job: 2, Day: 5, State: api.Bad, Runs: 2, Tries: 1, At: 7205}, api.OK)
	a, _ = Submit(waits, 1)
	b, e = Done(a, jdl.Job{Every: 30, Runs: 2}, 0, 5000)
	check(t, "Done", b, e, State{Id: 3, Job: 2, Day: 5, Runs: 1, At: 5030}, api.OK)
	a, _ = Submit(b, 2)
	b, e = Done(a, jdl.Job{Every: 30, Runs: 2}, 0, 5040)
	check(t, "Done", b, e, State{Id: 3, Job: 2, Day: 5, State: api.Good, Runs: 2, At: 5030}, api.OK)
}

func TestRight(t *testing.T) { // "a state can be"
	top := int64(math.MaxInt32)
	for i, s := range []State{
		waits, runs, ended, broken, held(waits), forced(waits),
		{Id: 1, Day: 1}, {Id: top, Job: api.MaxJobs - 1, Day: api.MaxDay, Runs: 99, Tries: 99, At: api.MaxClock},
		{Id: 1, Day: 1, State: api.Run, Run: 1}, {Id: 1, Day: 1, State: api.Run, Run: top},
		with(waits, func(s *State) { s.At = 0 }), with(ended, func(s *State) { s.Tries = 99 }),
	} {
		if !Right(s) {
			t.Error("it can be", i, s)
		}
	}
	var wrong []State
	for _, s := range []State{waits, runs, ended, broken} {
		for _, n := range wrongNumbers {
			wrong = append(wrong, with(s, func(s *State) { s.Id = n }))
		}
		for _, n := range []int{-1, api.MaxJobs, api.MaxJobs + 1, math.MinInt, math.MaxInt} {
			wrong = append(wrong, with(s, func(s *State) { s.Job = n }))
		}
		for _, n := range []int64{0, -1, api.MaxDay + 1, math.MinInt64, math.MaxInt64} {
			wrong = append(wrong, with(s, func(s *State) { s.Day = n }))
		}
		for _, n := range []int{-1, 4, 5, math.MinInt, math.MaxInt} {
			wrong = append(wrong, with(s, func(s *State) { s.State = n }), with(s, func(s *State) { s.State, s.Run = n, 0 }))
		}
		for _, n := range []int64{-1, 100, 101, math.MinInt64, math.MaxInt64} {
			wrong = append(wrong, with(s, func(s *State) { s.Runs = n }), with(s, func(s *State) { s.Tries = n }))
		}
		for _, n := range wrongNumbers[1:] {
			wrong = append(wrong, with(s, func(s *State) { s.Run = n }))
		}
		for _, n := range wrongClocks {
			wrong = append(wrong, with(s, func(s *State) { s.At = n }))
		}
		wrong = append(wrong, forced(held(s)))
	}
	wrong = append(wrong, State{}, with(runs, func(s *State) { s.Run = 0 }), held(runs), held(ended), held(broken), forced(runs), forced(ended), forced(broken))
	for _, s := range []State{waits, ended, broken} {
		wrong = append(wrong, with(s, func(s *State) { s.Run = 1 }))
	}
	for _, s := range wrong {
		if Right(s) || Text(s) != "" || Over(s) {
			t.Error("it can not be", s, Text(s), Over(s))
		}
		refusedEverywhere(t, s)
	}
}

// refusedEverywhere asks that no step takes a state that can not be, whatever else is wrong.
func refusedEverywhere(t *testing.T, s State) {
	t.Helper()
	for _, run := range []int64{1, 0, math.MaxInt64} {
		a, e := Submit(s, run)
		refused(t, "Submit", a, e, api.ErrArg)
	}
	for _, clock := range []int64{0, -1, math.MaxInt64} {
		a, e := Done(s, jdl.Job{Every: 1, Runs: 99, Retry: 99}, clock, clock)
		refused(t, "Done", a, e, api.ErrArg)
		a, e = Rerun(s, clock)
		refused(t, "Rerun", a, e, api.ErrArg)
	}
	for i, step := range []func(State) (State, api.Errno){Hold, Free, Force, Ok, Kill} {
		if a, e := step(s); a != (State{}) || e != api.ErrArg {
			t.Error("a step", i, s, a, e)
		}
	}
	if e := Delete(s); e != api.ErrArg {
		t.Error("Delete", s, e)
	}
}

func TestSubmit(t *testing.T) { // P17.1, P2
	for _, run := range []int64{1, 77, math.MaxInt32} {
		a, e := Submit(waits, run)
		check(t, "Submit", a, e, State{Id: 3, Job: 2, Day: 5, State: api.Run, Runs: 1, Run: run, At: 7200}, api.OK)
		a, e = Submit(forced(waits), run)
		check(t, "Submit of a forced one", a, e, State{Id: 3, Job: 2, Day: 5, State: api.Run, Runs: 1, Run: run, At: 7200}, api.OK)
		a, e = Submit(with(waits, func(s *State) { s.Runs, s.Tries = 98, 99 }), run)
		check(t, "Submit for the last time", a, e, State{Id: 3, Job: 2, Day: 5, State: api.Run, Runs: 99, Tries: 99, Run: run, At: 7200}, api.OK)
	}
	full := with(waits, func(s *State) { s.Runs = 99 })
	for _, x := range []struct {
		s State
		e api.Errno
	}{{runs, api.ErrState}, {ended, api.ErrState}, {broken, api.ErrState}, {held(waits), api.ErrHeld}, {held(full), api.ErrHeld}, {full, api.ErrFull}, {forced(full), api.ErrFull}, {with(ended, func(s *State) { s.Runs = 99 }), api.ErrState}} {
		a, e := Submit(x.s, 1)
		refused(t, "Submit", a, e, x.e)
		for _, run := range wrongNumbers {
			a, e := Submit(x.s, run)
			refused(t, "Submit", a, e, api.ErrArg)
		}
	}
	for _, run := range wrongNumbers {
		a, e := Submit(waits, run)
		refused(t, "Submit", a, e, api.ErrArg)
	}
}

func TestDoneWell(t *testing.T) { // P17.1
	for _, x := range []struct {
		d    jdl.Job
		runs int64
		at   int64 // -1: the job is good
	}{
		{jdl.Job{Runs: 1}, 1, -1},
		{jdl.Job{}, 0, -1},
		{jdl.Job{Runs: 5}, 1, -1},
		{jdl.Job{Every: -1, Runs: 5}, 1, -1},
		{jdl.Job{Every: math.MinInt64, Runs: 5}, 1, -1},
		{jdl.Job{Every: 1, Runs: 1}, 1, -1},
		{jdl.Job{Every: 1, Runs: 0}, 0, -1},
		{jdl.Job{Every: 1, Runs: 1}, 0, 7301},
		{jdl.Job{Every: 1, Runs: 2}, 1, 7301},
		{jdl.Job{Every: 1, Runs: 2}, 2, -1},
		{jdl.Job{Every: 1, Runs: 2}, 3, -1},
		{jdl.Job{Every: api.MaxEvery, Runs: 99}, 98, 7300 + api.MaxEvery},
		{jdl.Job{Every: api.MaxEvery, Runs: 99}, 99, -1},
		{jdl.Job{Every: math.MaxInt64, Runs: math.MaxInt64}, 99, api.MaxClock},
		{jdl.Job{Every: 5, Runs: math.MinInt64}, 0, -1},
	} {
		for _, tries := range []int64{0, 1, 99} {
			x.d.Retry = 99
			a, e := Done(with(runs, func(s *State) { s.Runs, s.Tries = x.runs, tries }), x.d, 0, 7300)
			want := State{Id: 3, Job: 2, Day: 5, State: api.Good, Runs: x.runs, At: 7200}
			if x.at >= 0 {
				want.State, want.At = api.Wait, x.at
			}
			check(t, "Done", a, e, want, api.OK)
		}
	}
}

func TestDoneBadly(t *testing.T) { // P17.1
	for _, x := range []struct {
		retry, tries, runs int64
		again              bool
	}{
		{0, 0, 1, false}, {1, 0, 1, true}, {1, 1, 2, false}, {1, 2, 3, false}, {2, 1, 2, true}, {2, 2, 2, false},
		{99, 98, 98, true}, {99, 99, 98, false}, {99, 98, 99, false}, {99, 0, 99, false}, {99, 0, 0, true},
		{100, 98, 98, true}, {100, 99, 98, false}, {math.MaxInt64, 99, 1, false}, {math.MaxInt64, 98, 1, true}, {-1, 0, 1, false}, {math.MinInt64, 0, 1, false},
	} {
		for _, code := range []int64{1, -1, 255, math.MinInt64, math.MaxInt64} {
			for _, every := range []int64{0, 30} {
				a, e := Done(with(runs, func(s *State) { s.Runs, s.Tries = x.runs, x.tries }), jdl.Job{Every: every, Runs: 99, Retry: x.retry}, code, 7300)
				want := State{Id: 3, Job: 2, Day: 5, State: api.Bad, Runs: x.runs, Tries: x.tries, At: 7200}
				if x.again {
					want.State, want.Tries, want.At = api.Wait, x.tries+1, 7300
				}
				check(t, "Done", a, e, want, api.OK)
			}
		}
	}
}

func TestDoneAtClocks(t *testing.T) { // P17.1
	again := jdl.Job{Every: 30, Runs: 9, Retry: 9}
	for _, clock := range []int64{0, 1, api.DayMin - 1, api.DayMin, api.MaxClock - 31, api.MaxClock - 30} {
		a, e := Done(runs, again, 0, clock)
		check(t, "Done", a, e, State{Id: 3, Job: 2, Day: 5, Runs: 1, At: clock + 30}, api.OK)
	}
	for _, clock := range []int64{api.MaxClock - 29, api.MaxClock - 1, api.MaxClock} {
		a, e := Done(runs, again, 0, clock)
		check(t, "Done", a, e, State{Id: 3, Job: 2, Day: 5, Runs: 1, At: api.MaxClock}, api.OK)
	}
	for _, clock := range []int64{0, api.MaxClock} {
		a, e := Done(runs, again, 1, clock)
		check(t, "Done", a, e, State{Id: 3, Job: 2, Day: 5, Runs: 1, Tries: 2, At: clock}, api.OK)
	}
	for _, s := range []State{runs, waits, ended, broken, held(waits)} {
		for _, clock := range wrongClocks {
			a, e := Done(s, again, 0, clock)
			refused(t, "Done", a, e, api.ErrTime)
		}
	}
	for _, s := range []State{waits, ended, broken, held(waits), forced(waits)} {
		for _, code := range []int64{0, 1} {
			a, e := Done(s, again, code, 7300)
			refused(t, "Done", a, e, api.ErrState)
		}
	}
}

func TestHoldAndFree(t *testing.T) { // P17.2, P17.6
	full := State{Id: 9, Job: 47, Day: 1, Runs: 99, Tries: 7, At: api.MaxClock}
	for _, s := range []State{waits, full} {
		a, e := Hold(s)
		check(t, "Hold", a, e, held(s), api.OK)
		a, e = Free(a)
		check(t, "Free", a, e, s, api.OK)
		a, e = Free(s)
		refused(t, "Free", a, e, api.ErrNone)
		a, e = Free(forced(s))
		refused(t, "Free", a, e, api.ErrNone)
		a, e = Hold(held(s))
		refused(t, "Hold", a, e, api.ErrHeld)
		a, e = Hold(forced(s))
		refused(t, "Hold", a, e, api.ErrHeld)
	}
	for _, s := range []State{runs, ended, broken} {
		a, e := Hold(s)
		refused(t, "Hold", a, e, api.ErrState)
		a, e = Free(s)
		refused(t, "Free", a, e, api.ErrState)
	}
}

func TestForce(t *testing.T) { // P17.2
	a, e := Force(waits)
	check(t, "Force", a, e, forced(waits), api.OK)
	a, e = Force(a)
	check(t, "Force of a forced one", a, e, forced(waits), api.OK)
	a, e = Force(held(waits))
	refused(t, "Force", a, e, api.ErrHeld)
	for _, s := range []State{runs, ended, broken} {
		a, e = Force(s)
		refused(t, "Force", a, e, api.ErrState)
	}
}

func TestRerun(t *testing.T) { // P17.2
	for _, s := range []State{ended, broken, with(broken, func(s *State) { s.Runs, s.Tries = 98, 99 }), with(ended, func(s *State) { s.Runs = 0 })} {
		for _, clock := range []int64{0, 7199, 7201, api.MaxClock} {
			a, e := Rerun(s, clock)
			check(t, "Rerun", a, e, State{Id: 3, Job: 2, Day: 5, Runs: s.Runs, At: clock}, api.OK)
		}
		a, e := Rerun(with(s, func(s *State) { s.Runs = 99 }), 1)
		refused(t, "Rerun", a, e, api.ErrFull)
	}
	full := func(s State) State { s.Runs = 99; return s }
	for _, s := range []State{waits, runs, held(waits), forced(waits), full(waits), full(runs)} {
		a, e := Rerun(s, 1)
		refused(t, "Rerun", a, e, api.ErrState)
	}
	for _, s := range []State{waits, runs, ended, broken, full(ended), full(broken)} {
		for _, clock := range wrongClocks {
			a, e := Rerun(s, clock)
			refused(t, "Rerun", a, e, api.ErrTime)
		}
	}
}

func TestOk(t *testing.T) { // P17.2
	tried := with(waits, func(s *State) { s.Runs, s.Tries = 99, 99 })
	for _, s := range []State{waits, forced(waits), broken, tried, forced(tried)} {
		a, e := Ok(s)
		check(t, "Ok", a, e, State{Id: 3, Job: 2, Day: 5, State: api.Good, Runs: s.Runs, At: 7200}, api.OK)
	}
	a, e := Ok(held(waits))
	refused(t, "Ok", a, e, api.ErrHeld)
	for _, s := range []State{runs, ended} {
		a, e := Ok(s)
		refused(t, "Ok", a, e, api.ErrState)
	}
}

func TestKillAndDelete(t *testing.T) { // P17.2
	a, e := Kill(runs)
	check(t, "Kill", a, e, State{Id: 3, Job: 2, Day: 5, State: api.Bad, Runs: 1, Tries: 1, At: 7200}, api.OK)
	if e := Delete(runs); e != api.ErrState {
		t.Error("Delete", e)
	}
	for _, s := range []State{waits, ended, broken, held(waits), forced(waits)} {
		a, e := Kill(s)
		refused(t, "Kill", a, e, api.ErrState)
		if e := Delete(s); e != api.OK {
			t.Error("Delete", s, e)
		}
	}
}

func TestText(t *testing.T) { // P17.3
	for want, s := range map[string]State{
		"3 2 00010105 wait":                      waits,
		"3 2 00010105 wait held":                 held(waits),
		"3 2 00010105 wait forced":               forced(waits),
		"3 2 00010105 run #9":                    runs,
		"3 2 00010105 good":                      ended,
		"3 2 00010105 bad":                       broken,
		"2147483647 47 99991231 run #2147483647": {Id: math.MaxInt32, Job: 47, Day: api.MaxDay, State: api.Run, Run: math.MaxInt32, Runs: 99},
		"10 0 20000229 wait":                     {Id: 10, Day: 730179, Runs: 99, Tries: 99, At: api.MaxClock},
	} {
		if got := Text(s); got != want {
			t.Errorf("Text %q not %q", got, want)
		}
	}
}

func TestOver(t *testing.T) { // P17.3
	if !Over(ended) || Over(waits) || Over(runs) || Over(broken) || Over(held(waits)) || Over(held(ended)) {
		t.Error("Over")
	}
}

func TestStandsAreThoseOfTheApi(t *testing.T) { // iota's numbers
	if waiting != api.Wait || running != api.Run || good != api.Good || bad != api.Bad {
		t.Error("stands", waiting, running, good, bad)
	}
}
