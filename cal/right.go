package cal

import (
	"slices"

	"dayshift/api"
	"dayshift/date"
)

const (
	weekDays = 7
	maxDays  = 31 // of a month
	maxNth   = 5  // of one weekday in a month
	maxMonth = 12
	maxKids  = 8
)

// shape is how many numbers and kids a node has at least and at most, and whether it has a name.
type shape struct {
	fewNumbers, mostNumbers int
	fewKids, mostKids       int
	named                   bool
}

// shapes has each operation's at its number.
var shapes = [11]shape{
	Week:   {fewNumbers: 1, mostNumbers: 1},
	Dates:  {mostNumbers: api.MaxDates},
	Month:  {mostNumbers: api.MaxDates},
	Nth:    {fewNumbers: 2, mostNumbers: 2},
	Work:   {fewNumbers: 1, mostNumbers: 1, named: true},
	Fiscal: {fewNumbers: 2, mostNumbers: 2},
	And:    {fewKids: 1, mostKids: maxKids},
	Or:     {fewKids: 1, mostKids: maxKids},
	Not:    {fewKids: 1, mostKids: 1},
	Ref:    {named: true},
}

// canBe tells whether a node that stands so deep, and all that is in it, can be. It goes no deeper than a node may: kids may be their own kids.
func canBe(n Node, deep int) bool {
	if deep > api.MaxDeep || !hasShape(n) || !numbersCanBe(n) {
		return false
	}
	for _, kid := range n.Kids {
		if !canBe(kid, deep+1) {
			return false
		}
	}
	return true
}

func hasShape(n Node) bool {
	if n.Op < Week || n.Op > Ref {
		return false
	}
	s := shapes[n.Op]
	numbers, kids := len(n.N), len(n.Kids)
	return numbers >= s.fewNumbers && numbers <= s.mostNumbers && kids >= s.fewKids && kids <= s.mostKids && (n.Name != "") == s.named
}

// numbersCanBe tells whether the numbers can be of a node that has its operation's shape.
func numbersCanBe(n Node) bool {
	switch n.Op {
	case Week:
		return all(n.N, between(0, 1<<weekDays-1))
	case Dates:
		return all(n.N, date.Right)
	case Month, Work:
		return all(n.N, fromEitherEnd(maxDays))
	case Nth:
		return each(n.N, between(0, weekDays-1), fromEitherEnd(maxNth))
	case Fiscal:
		return each(n.N, oneOf(445, 454, 544), between(1, maxMonth))
	}
	return true
}

// all tells whether each number is right by one test.
func all(l []int64, right func(int64) bool) bool {
	for _, k := range l {
		if !right(k) {
			return false
		}
	}
	return true
}

// each tells whether the numbers are right, each by the test at its place.
func each(l []int64, right ...func(int64) bool) bool {
	for i, test := range right {
		if !test(l[i]) {
			return false
		}
	}
	return true
}

func between(least, most int64) func(int64) bool {
	return func(k int64) bool {
		return k >= least && k <= most
	}
}

// fromEitherEnd is of places from 1 on, or from -1 down.
func fromEitherEnd(most int64) func(int64) bool {
	return func(k int64) bool {
		return k >= -most && k <= most && k != 0
	}
}

func oneOf(list ...int64) func(int64) bool {
	return func(k int64) bool {
		return slices.Contains(list, k)
	}
}
