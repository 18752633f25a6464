package plan

import (
	"dayshift/api"
	"dayshift/book"
	"dayshift/date"
	"dayshift/order"
)

// Turn turns to a new day: it tells how many jobs went, and the numbers of those that came, which may run from a clock on.
func (p *Plan) Turn(b *book.Book, day, at int64) (int, []int64, api.Errno) {
	if p == nil || b == nil {
		return 0, nil, api.ErrNil
	}
	if !date.Right(day) {
		return 0, nil, api.ErrRange
	}
	if day <= p.day {
		return 0, nil, api.OK
	}
	if at < 0 || at > api.MaxClock {
		return 0, nil, api.ErrArg
	}
	// The room shows only when all have come, and then those that went must be there still.
	next := p.Copy()
	next.day = day
	gone := next.leave(b)
	came, e := next.bring(b, at)
	if e != api.OK {
		return 0, nil, e
	}
	*p = *next
	return gone, came, api.OK
}

// leave takes all jobs away that do not stay on the plan's day, and tells how many they were.
func (p *Plan) leave(b *book.Book) int {
	ahead := len(p.jobs)
	for id, a := range p.jobs {
		if a.goes(b, p.day) {
			delete(p.jobs, id)
		}
	}
	return ahead - len(p.jobs)
}

// bring lets all jobs come that the plan's day brings, and tells their numbers.
func (p *Plan) bring(b *book.Book, at int64) ([]int64, api.Errno) {
	fresh, _ := order.Fresh(b, p.day, p.tickets()) // Turn has seen that the book and the day can be
	var came []int64
	for _, t := range fresh {
		id, e := p.Add(t.Job, t.Day, at)
		if e != api.OK {
			return nil, e
		}
		came = append(came, id)
	}
	return came, api.OK
}

func (p *Plan) tickets() []order.Ticket {
	var l []order.Ticket
	for _, a := range p.sorted() {
		l = append(l, a.ticket())
	}
	return l
}
