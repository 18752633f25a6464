package job

import (
	"math"
	"math/rand"
	"strconv"
	"strings"
	"testing"

	"dayshift/api"
	"dayshift/date"
	"dayshift/jdl"
)

// modelRight goes by what is said of each way to stand.
func modelRight(s State) bool {
	between := func(n, from, to int64) bool { return from <= n && n <= to }
	if !between(s.Id, 1, math.MaxInt32) || !between(int64(s.Job), 0, 47) || !between(s.Day, 1, 3652059) || !between(s.Runs, 0, 99) || !between(s.Tries, 0, 99) || !between(s.At, 0, 5258966399) {
		return false
	}
	switch s.State {
	case 0:
		return s.Run == 0 && (!s.Hold || !s.Force)
	case 1:
		return between(s.Run, 1, math.MaxInt32) && !s.Hold && !s.Force
	case 2, 3:
		return s.Run == 0 && !s.Hold && !s.Force
	}
	return false
}

// oneOf picks one of some.
func oneOf[T any](r *rand.Rand, l ...T) T { return l[r.Intn(len(l))] }

// anyState tells states of which about half can be.
func anyState(r *rand.Rand) State {
	s := State{Id: oneOf[int64](r, 1, 2, math.MaxInt32), Job: oneOf(r, 0, 1, 47), Day: oneOf[int64](r, 1, 2, api.MaxDay), State: r.Intn(4)}
	s.Runs, s.Tries, s.At = oneOf[int64](r, 0, 1, 2, 98, 99), oneOf[int64](r, 0, 1, 2, 98, 99), oneOf[int64](r, 0, 1, 1440, api.MaxClock)
	if s.State == 1 {
		s.Run = oneOf[int64](r, 1, 2, math.MaxInt32)
	}
	if s.State == 0 {
		s.Hold, s.Force = r.Intn(3) == 0, r.Intn(3) == 0
	}
	for range oneOf(r, 0, 0, 0, 1, 2) {
		spoil(r, &s)
	}
	return s
}

// spoil changes one thing, maybe to one that can not be.
func spoil(r *rand.Rand, s *State) {
	n := oneOf[int64](r, 0, -1, 1, 48, 99, 100, 1<<31-1, 1<<31, api.MaxDay, api.MaxDay+1, api.MaxClock, api.MaxClock+1, math.MinInt64, math.MaxInt64)
	switch r.Intn(10) {
	case 0:
		s.Id = n
	case 1:
		s.Job = int(n)
	case 2:
		s.Day = n
	case 3:
		s.State = oneOf(r, -1, 0, 1, 2, 3, 4, int(n))
	case 4:
		s.Hold = !s.Hold
	case 5:
		s.Force = !s.Force
	case 6:
		s.Runs = n
	case 7:
		s.Tries = n
	case 8:
		s.Run = n
	case 9:
		s.At = n
	}
}

// step is one of the steps, with all that it is given.
type step struct {
	kind             int
	run, code, clock int64
	d                jdl.Job
}

// steps is how many kinds there are.
const steps = 9

func anyStep(r *rand.Rand) step {
	return step{
		kind:  r.Intn(steps),
		run:   oneOf[int64](r, 1, 2, 3, 1<<31-1, 1<<31, 0, -1),
		code:  oneOf[int64](r, 0, 0, 1, -1),
		clock: oneOf[int64](r, 0, 1, 5000, api.MaxClock-1, api.MaxClock, api.MaxClock, -1, api.MaxClock+1),
		d:     jdl.Job{Every: oneOf[int64](r, 0, 0, 30, api.MaxEvery), Runs: oneOf[int64](r, 1, 2, 3, 99), Retry: oneOf[int64](r, 0, 1, 2, 99)},
	}
}

func (x step) do(s State) (State, api.Errno) {
	switch x.kind {
	case 0:
		return Submit(s, x.run)
	case 1:
		return Done(s, x.d, x.code, x.clock)
	case 2:
		return Hold(s)
	case 3:
		return Free(s)
	case 4:
		return Rerun(s, x.clock)
	case 5:
		return Force(s)
	case 6:
		return Ok(s)
	case 7:
		return Kill(s)
	}
	if e := Delete(s); e != api.OK {
		return State{}, e
	}
	return s, api.OK
}

// why is an error, and when it is.
type why struct {
	is bool
	e  api.Errno
}

// model tells the errors of a step in their order, and what the step changes.
func (x step) model(s State) ([]why, func(*State)) {
	wrongRun, wrongClock := x.run < 1 || x.run > math.MaxInt32, x.clock < 0 || x.clock > 5258966399
	full := why{s.Runs == 99, api.ErrFull}
	heldNow := why{s.Hold, api.ErrHeld}
	time := why{wrongClock, api.ErrTime}
	not := func(stands string) why { return why{!strings.Contains(stands, strconv.Itoa(s.State)), api.ErrState} }
	switch x.kind {
	case 0:
		return []why{{wrongRun, api.ErrArg}, not("0"), heldNow, full}, func(s *State) { s.State, s.Force, s.Runs, s.Run = 1, false, s.Runs+1, x.run }
	case 1:
		return []why{time, not("1")}, x.modelDone
	case 2:
		return []why{not("0"), heldNow, {s.Force, api.ErrHeld}}, func(s *State) { s.Hold = true }
	case 3:
		return []why{not("0"), {!s.Hold, api.ErrNone}}, func(s *State) { s.Hold = false }
	case 4:
		return []why{time, not("23"), full}, func(s *State) { s.State, s.At, s.Tries = 0, x.clock, 0 }
	case 5:
		return []why{not("0"), heldNow}, func(s *State) { s.Force = true }
	case 6:
		return []why{not("03"), heldNow}, func(s *State) { s.State, s.Force, s.Tries = 2, false, 0 }
	case 7:
		return []why{not("1")}, func(s *State) { s.State, s.Run = 3, 0 }
	}
	return []why{not("023")}, func(*State) {}
}

func (x step) modelDone(s *State) {
	s.Run = 0
	switch {
	case x.code == 0 && x.d.Every > 0 && s.Runs < x.d.Runs:
		s.State, s.At, s.Tries = 0, min(x.clock+x.d.Every, 5258966399), 0
	case x.code == 0:
		s.State, s.Tries = 2, 0
	case s.Tries < x.d.Retry && s.Tries < 99 && s.Runs < 99:
		s.State, s.At, s.Tries = 0, x.clock, s.Tries+1
	default:
		s.State = 3
	}
}

// want is what a step must answer.
func (x step) want(s State) (State, api.Errno) {
	if !modelRight(s) {
		return State{}, api.ErrArg
	}
	errors, change := x.model(s)
	for _, w := range errors {
		if w.is {
			return State{}, w.e
		}
	}
	change(&s)
	return s, api.OK
}

func TestAnyStep(t *testing.T) { // P17.1, P17.2, P17.4, P17.5
	r := rand.New(rand.NewSource(1))
	told := map[api.Errno]int{}
	for range 400000 {
		s, x := anyState(r), anyStep(r)
		if is := Right(s); is != modelRight(s) {
			t.Fatal("Right", s, is)
		}
		got, e := x.do(s)
		if want, wantError := x.want(s); got != want || e != wantError {
			t.Fatal("step", x, "of", s, got, e, "not", want, wantError)
		}
		told[e]++
		if e == api.OK {
			checkStep(t, x, s, got)
		}
	}
	for _, e := range []api.Errno{api.OK, api.ErrArg, api.ErrState, api.ErrHeld, api.ErrFull, api.ErrTime, api.ErrNone} {
		if told[e] < 500 {
			t.Error("too few of", e, told[e])
		}
	}
}

// checkStep asks for what holds of each step that was not refused.
func checkStep(t *testing.T, x step, s, got State) {
	t.Helper()
	if !Right(got) {
		t.Fatal("it can not be", x, s, got)
	}
	if got.Id != s.Id || got.Job != s.Job || got.Day != s.Day {
		t.Fatal("it is another job", x, s, got)
	}
	grown := got.Runs - s.Runs
	if x.kind == 0 && grown != 1 || x.kind != 0 && grown != 0 {
		t.Fatal("how often it was run", x, s, got)
	}
	if x.kind == 0 && s.Hold {
		t.Fatal("a held one is run", s)
	}
}

func TestAnyWay(t *testing.T) { // P17.4, P17.5, P17.6
	r := rand.New(rand.NewSource(2))
	full := 0
	for range 300 {
		s := State{Id: 1 + r.Int63n(9), Job: r.Intn(48), Day: 1 + r.Int63n(9)}
		first, submitted := s, int64(0)
		for range 8000 {
			x := anyStep(r)
			got, e := x.do(s)
			if e != api.OK {
				continue
			}
			checkStep(t, x, s, got)
			if x.kind == 0 {
				submitted++
			}
			if x.kind == 2 {
				if back, e := Free(got); back != s || e != api.OK {
					t.Fatal("Free of Hold", s, got, back, e)
				}
			}
			s = got
		}
		if s.Runs != submitted || submitted > api.MaxRuns || s.Id != first.Id || s.Job != first.Job || s.Day != first.Day {
			t.Fatal("the way", first, s, submitted)
		}
		if submitted == api.MaxRuns {
			full++
		}
	}
	if full < 100 {
		t.Error("too few have run as often as they may", full)
	}
}

func TestAnyText(t *testing.T) { // P17.3
	r := rand.New(rand.NewSource(3))
	for range 50000 {
		s := anyState(r)
		want := ""
		if modelRight(s) {
			day, _ := date.Text(s.Day)
			parts := []string{strconv.FormatInt(s.Id, 10), strconv.Itoa(s.Job), day, strings.Fields("wait run good bad")[s.State]}
			if s.Hold {
				parts = append(parts, "held")
			}
			if s.Force {
				parts = append(parts, "forced")
			}
			if s.State == 1 {
				parts = append(parts, "#"+strconv.FormatInt(s.Run, 10))
			}
			want = strings.Join(parts, " ")
		}
		if got := Text(s); got != want {
			t.Fatalf("Text %v %q not %q", s, got, want)
		}
		if is := Over(s); is != (modelRight(s) && s.State == 2) {
			t.Fatal("Over", s, is)
		}
	}
}
