package book

import (
	"dayshift/cal"
	"dayshift/jdl"
)

// due tells whether a job of the book comes on a day that can be. Calendars have no error then: it would have been one on any day, and the rules refuse those.
func (b *Book) due(j jdl.Job, day int64) bool {
	if j.Days.Op == 0 {
		return false
	}
	if !j.Shift {
		is, _ := cal.In(b.source.Cals, j.Days, day)
		return is
	}
	is, _ := cal.Due(b.source.Cals, j.Days, j.Work, j.Dir, day)
	return is
}
