package when

import (
	"dayshift/api"
	"dayshift/week"
)

// window is two minutes of a day: it is open from the first one up to the second one, both of them, maybe over midnight.
type window [2]int64

func (w window) right() bool {
	return isMinutes(w[0]) && isMinutes(w[1])
}

// has tells whether a window that can be is open at minutes of a day.
func (w window) has(minutes int64) bool {
	if w[0] <= w[1] {
		return w[0] <= minutes && minutes <= w[1]
	}
	return w[0] <= minutes || minutes <= w[1]
}

// rest is the window of all other minutes; only one that is open always has none, and is its own rest.
func (w window) rest() window {
	return window{around(w[1] + 1), around(w[0] - 1)}
}

// at tells the minutes of a clock, if the window and the clock can be.
func (w window) at(clock int64) (int64, api.Errno) {
	if !w.right() {
		return 0, api.ErrArg
	}
	_, minutes, e := week.Split(clock)
	return minutes, e
}

// until counts how many minutes behind some of a day the window is open first.
func (w window) until(minutes int64) int64 {
	for ahead := range int64(api.DayMin) {
		if w.has(around(minutes + ahead)) {
			return ahead
		}
	}
	return api.DayMin
}

// around tells the minutes of a day of those that went over midnight, by a day at most.
func around(minutes int64) int64 {
	return (minutes + api.DayMin) % api.DayMin
}

func isMinutes(minutes int64) bool {
	return minutes >= 0 && minutes < api.DayMin
}
