package plan

import (
	"dayshift/api"
	"dayshift/book"
	"dayshift/job"
	"dayshift/order"
)

// number is a job's number: no place in a book, and no run's number.
type number int64

// active is a job that is there, as it stands.
type active struct {
	job.State
}

func (a active) runs() bool {
	return a.State.State == api.Run
}

// ticket is the job's place in the book, and its day.
func (a active) ticket() order.Ticket {
	return order.Ticket{Job: a.Job, Day: a.Day}
}

// goes tells whether a new day takes the job away: it is over, has waited too long, or the book does not know it.
func (a active) goes(b *book.Book, day int64) bool {
	if a.runs() {
		return false
	}
	old, e := order.Old(b, a.ticket(), day)
	return old || e != api.OK || a.Day < day && job.Over(a.State)
}
