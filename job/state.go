package job

import (
	"slices"
	"strconv"

	"dayshift/api"
	"dayshift/date"
)

// How a job stands, by the numbers of package api.
const (
	waiting = api.Wait + iota
	running
	good
	bad
)

// maxNumber is the greatest number of a job, and of a run.
const maxNumber = 1<<31 - 1

// Right tells whether a state can be.
func Right(s State) bool {
	return isNumber(s.Id) && s.Job >= 0 && s.Job < api.MaxJobs && date.Right(s.Day) &&
		s.State >= waiting && s.State <= bad &&
		isCount(s.Runs) && isCount(s.Tries) && isClock(s.At) &&
		(s.State != running || isNumber(s.Run)) &&
		!(s.Hold && s.Force) && s == s.bare()
}

// bare is a state without all that those that stand so never have.
func (s State) bare() State {
	if s.State != waiting {
		s.Hold, s.Force = false, false
	}
	if s.State != running {
		s.Run = 0
	}
	return s
}

// refuse tells why a step can not be that is for those alone that stand in one of some ways.
func (s State) refuse(stands ...int) api.Errno {
	if !Right(s) {
		return api.ErrArg
	}
	if !slices.Contains(stands, s.State) {
		return api.ErrState
	}
	return api.OK
}

// refuseAt is refuse of a step that is done at a clock.
func (s State) refuseAt(clock int64, stands ...int) api.Errno {
	e := s.refuse(stands...)
	if e != api.ErrArg && !isClock(clock) {
		return api.ErrTime
	}
	return e
}

func isNumber(n int64) bool { return n >= 1 && n <= maxNumber }

func isCount(n int64) bool { return n >= 0 && n <= api.MaxRuns }

// isClock takes clocks of no day, too: an engine begins at 0.
func isClock(clock int64) bool { return clock >= 0 && clock <= api.MaxClock }

// Text tells a state as a line; "", if it can not be.
func Text(s State) string {
	if !Right(s) {
		return ""
	}
	day, _ := date.Text(s.Day)
	text := strconv.FormatInt(s.Id, 10) + " " + strconv.Itoa(s.Job) + " " + day + " " + word(s.State)
	if s.Hold {
		text += " held"
	}
	if s.Force {
		text += " forced"
	}
	if s.State == running {
		text += " #" + strconv.FormatInt(s.Run, 10)
	}
	return text
}

func word(stand int) string {
	switch stand {
	case waiting:
		return "wait"
	case running:
		return "run"
	case good:
		return "good"
	}
	return "bad"
}

// Over tells whether a job has ended well.
func Over(s State) bool {
	return Right(s) && s.State == good
}
