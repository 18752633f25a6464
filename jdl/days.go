package jdl

import (
	"dayshift/api"
	"dayshift/cal"
	"dayshift/date"
	"dayshift/lex"
)

const (
	maxParts = 8           // of one And or Or
	noLimit  = api.MaxText // no source has more words
)

func (r *reader) days() cal.Node {
	return joinedDays(cal.Or, list(r, "or", maxParts, r.bothDays))
}

func (r *reader) bothDays() cal.Node {
	return joinedDays(cal.And, list(r, "and", maxParts, r.oneDays))
}

// joinedDays makes one node of several; one alone stays as it is.
func joinedDays(op int, kids []cal.Node) cal.Node {
	if len(kids) == 1 {
		return kids[0]
	}
	return cal.Node{Op: op, Kids: kids}
}

func (r *reader) oneDays() cal.Node {
	switch r.text() {
	case "not":
		return cal.Node{Op: cal.Not, Kids: []cal.Node{deeper(r, r.oneDays)}}
	case "(":
		return bracketed(r, r.days)
	case "week", "dates", "month", "nth", "work", "fiscal":
		return r.call()
	case "and", "or":
		panic(r.fault(api.ErrSyntax))
	}
	return cal.Node{Op: cal.Ref, Name: r.name()}
}

// call reads one of the words of days with what stands in its brackets. These are none of those that count how deep it is: nothing can stand deeper in them.
func (r *reader) call() cal.Node {
	word := r.name()
	r.must("(")
	var n cal.Node
	switch word {
	case "week":
		n = weekNode(list(r, ",", noLimit, r.weekday))
	case "dates":
		n = cal.Node{Op: cal.Dates, N: r.dates()}
	case "month":
		n = cal.Node{Op: cal.Month, N: list(r, ",", api.MaxDates, r.integer)}
	case "nth":
		n = cal.Node{Op: cal.Nth, N: pair(r, r.weekday, r.integer)}
	case "work":
		n = r.work()
	case "fiscal":
		n = cal.Node{Op: cal.Fiscal, N: pair(r, r.number, r.number)}
	}
	r.must(")")
	return n
}

func (r *reader) weekday() int64 {
	return int64(r.choice(weekdayWords()))
}

func weekNode(days []int64) cal.Node {
	bits := int64(0)
	for _, day := range days {
		bits |= 1 << uint(day)
	}
	return cal.Node{Op: cal.Week, N: []int64{bits}}
}

// dates reads days, of which there may be none.
func (r *reader) dates() []int64 {
	if r.text() == ")" {
		return nil
	}
	return list(r, ",", api.MaxDates, r.date)
}

func (r *reader) date() int64 {
	refused := r.fault(api.ErrSyntax)
	day, e := date.Read(r.word(lex.Num).Text)
	if e != api.OK {
		panic(refused)
	}
	return day
}

func (r *reader) work() cal.Node {
	k := r.integer()
	r.must(",")
	return cal.Node{Op: cal.Work, N: []int64{k}, Name: r.name()}
}

// pair reads two parts with a comma between.
func pair[T any](r *reader, first, second func() T) []T {
	a := first()
	r.must(",")
	return []T{a, second()}
}
