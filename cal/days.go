package cal

import (
	"dayshift/date"
	"dayshift/mask"
	"dayshift/week"
)

const (
	monday  = 0
	periods = 12 // of a fiscal year
)

// month is one of a year's: its first day, and how many it has.
type month struct {
	year, number int64
	first, size  int64
}

// asked is a calendar, by its place, in the month that begins on a day.
type asked struct {
	cal   int
	first int64
}

// asker tells days of nodes that were not refused, a month at a time.
type asker struct {
	cals  []Cal
	known map[asked]mask.Month
}

func newAsker(l []Cal) asker {
	return asker{cals: l, known: map[asked]mask.Month{}}
}

// asking makes a function that tells whether a day that can be is one of a node's. It holds the month that was asked last: days are asked one beside the other.
func (a asker) asking(n Node) func(int64) bool {
	var at month
	var days mask.Month
	return func(day int64) bool {
		if day < at.first || day >= at.first+at.size {
			at = monthOf(day)
			days = a.days(n, at)
		}
		return days.Has(at.place(day))
	}
}

// days tells the days of a node in a month.
func (a asker) days(n Node, at month) mask.Month {
	switch n.Op {
	case Week:
		return at.weekdays(n.N[0])
	case Dates:
		return at.these(n.N...)
	case Month:
		return mask.Days(n.N, at.size)
	case Nth:
		return at.nth(n.N[0], n.N[1])
	case Work:
		return mask.Days([]int64{a.named(n.Name, at).Nth(n.N[0])}, at.size)
	case Fiscal:
		return at.fiscal(n.N[0], n.N[1])
	case And, Or:
		return a.joined(n, at)
	case Not:
		return a.days(n.Kids[0], at).Not(at.size)
	case Ref:
		return a.named(n.Name, at)
	}
	return 0
}

// joined tells the days of all kids of an And, or of one at least of an Or.
func (a asker) joined(n Node, at month) mask.Month {
	days := a.days(n.Kids[0], at)
	for _, kid := range n.Kids[1:] {
		if n.Op == And {
			days &= a.days(kid, at)
		} else {
			days |= a.days(kid, at)
		}
	}
	return days
}

// named tells the days of a calendar in a month, once.
func (a asker) named(name string, at month) mask.Month {
	key := asked{cal: Find(a.cals, name), first: at.first}
	days, ok := a.known[key]
	if !ok {
		days = a.days(a.cals[key.cal].Days, at)
		a.known[key] = days
	}
	return days
}

// monthOf tells the month of a day that can be.
func monthOf(day int64) month {
	y, m, d, _ := date.Date(day)
	return month{year: y, number: m, first: day - d + 1, size: date.Len(y, m)}
}

// place tells which day of the month a day is, if it is one of it.
func (at month) place(day int64) int64 {
	return day - at.first + 1
}

// these tells those of some days that are in the month.
func (at month) these(days ...int64) mask.Month {
	var places []int64
	for _, day := range days {
		// To a mask a place below 0 would be one from the end.
		if day >= at.first {
			places = append(places, at.place(day))
		}
	}
	return mask.Days(places, at.size)
}

func (at month) weekdays(bits int64) mask.Month {
	first, _ := date.Weekday(at.first)
	return mask.Week(uint8(bits), first, at.size)
}

func (at month) nth(weekday, k int64) mask.Month {
	// Where there is no such day, 0 is told, and that is in no month.
	day, _ := week.Nth(at.year, at.number, weekday, k)
	return at.these(day)
}

// fiscal tells the first days of fiscal periods in the month. Two fiscal years are enough: all periods of one are 52 weeks, and the next one never begins sooner, so none has to be cut either.
func (at month) fiscal(pattern, begins int64) mask.Month {
	weeks := [3]int64{pattern / 100, pattern / 10 % 10, pattern % 10}
	days := mask.Month(0)
	for y := max(at.year-1, 1); y <= at.year; y++ {
		day, _ := week.Nth(y, begins, monday, 1)
		for i := range periods {
			days |= at.these(day)
			day += weeks[i%len(weeks)] * weekDays
		}
	}
	return days
}
