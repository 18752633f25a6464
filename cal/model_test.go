package cal

import (
	"math/rand"
	"slices"
	"time"

	"dayshift/api"
)

// A second count of what a node's days are: day by day, by the library's dates.

var dayOne = time.Date(1, 1, 1, 0, 0, 0, 0, time.UTC)

func dateOf(day int64) time.Time { return dayOne.AddDate(0, 0, int(day-1)) }

func dayOf(at time.Time) int64 { return at.Unix()/86400 - dayOne.Unix()/86400 + 1 }

func on(y, m, d int) int64 { return dayOf(time.Date(y, time.Month(m), d, 0, 0, 0, 0, time.UTC)) }

func weekdayOf(day int64) int64 { return int64(dateOf(day).Weekday()+6) % 7 }

// monthDays has all days of a day's month.
func monthDays(day int64) []int64 {
	var l []int64
	at := dateOf(day)
	for x := at.AddDate(0, 0, 1-at.Day()); x.Month() == at.Month(); x = x.AddDate(0, 0, 1) {
		l = append(l, dayOf(x))
	}
	return l
}

// isPlace tells whether a day is the k-th of a list, from its end, if k is below 0.
func isPlace(l []int64, k, day int64) bool {
	i := slices.Index(l, day)
	return i >= 0 && (int64(i+1) == k || int64(i-len(l)) == k)
}

// only has those of a list that are so.
func only(l []int64, is func(int64) bool) []int64 {
	return slices.DeleteFunc(l, func(day int64) bool { return !is(day) })
}

func modelIn(l []Cal, n Node, day int64) bool {
	has := func(kid Node) bool { return modelIn(l, kid, day) }
	lacks := func(kid Node) bool { return !has(kid) }
	named := func(day int64) bool {
		i := slices.IndexFunc(l, func(c Cal) bool { return c.Name == n.Name })
		return modelIn(l, l[i].Days, day)
	}
	switch n.Op {
	case Week:
		return n.N[0]>>weekdayOf(day)&1 == 1
	case Dates:
		return slices.Contains(n.N, day)
	case Month:
		return slices.ContainsFunc(n.N, func(k int64) bool { return isPlace(monthDays(day), k, day) })
	case Nth:
		return isPlace(only(monthDays(day), func(x int64) bool { return weekdayOf(x) == n.N[0] }), n.N[1], day)
	case Work:
		return isPlace(only(monthDays(day), named), n.N[0], day)
	case Fiscal:
		return modelFiscal(n.N[0], int(n.N[1]), day)
	case And:
		return !slices.ContainsFunc(n.Kids, lacks)
	case Or:
		return slices.ContainsFunc(n.Kids, has)
	case Not:
		return lacks(n.Kids[0])
	}
	return named(day)
}

// firstMonday tells the first Monday of a month.
func firstMonday(y, m int) int64 {
	day := on(y, m, 1)
	for weekdayOf(day) != 0 {
		day++
	}
	return day
}

// modelFiscal goes through the periods of the fiscal year in which the day is.
func modelFiscal(pattern int64, begins int, day int64) bool {
	y := dateOf(day).Year()
	if day < firstMonday(y, begins) {
		y--
	}
	if y < 1 {
		return false
	}
	weeks := map[int64][]int64{445: {4, 4, 5}, 454: {4, 5, 4}, 544: {5, 4, 4}}[pattern]
	start, end := firstMonday(y, begins), firstMonday(y+1, begins)
	for i := range 12 {
		if start == day {
			return start < end
		}
		start += 7 * weeks[i%3]
	}
	return false
}

// modelError goes through the nodes that are met by a list of those that are still to come.
func modelError(l []Cal, n Node) api.Errno {
	type item struct {
		n      Node
		refs   int
		inWork bool
	}
	left := []item{{n: n}}
	for met := 1; len(left) > 0; met++ {
		x := left[0]
		var behind []item
		named := x.n.Op == Ref || x.n.Op == Work
		i := slices.IndexFunc(l, func(c Cal) bool { return c.Name == x.n.Name })
		switch {
		case met == 257, x.n.Op == Work && x.inWork:
			return api.ErrDeep
		case named && i < 0:
			return api.ErrName
		case named && x.refs == 24:
			return api.ErrDeep
		case named:
			behind = append(behind, item{l[i].Days, x.refs + 1, x.inWork || x.n.Op == Work})
		}
		for _, kid := range x.n.Kids {
			behind = append(behind, item{kid, x.refs, x.inWork})
		}
		left = append(behind, left[1:]...)
	}
	return api.OK
}

// maker makes nodes by chance, the same ones each time.
type maker struct {
	*rand.Rand
	names []string
	near  int64 // dates are near this day
}

func newMaker(seed int64) *maker {
	return &maker{Rand: rand.New(rand.NewSource(seed)), names: []string{"a", "b", "c", "d", "e"}, near: 1 + seed*7919%api.MaxDay}
}

// end tells k, counted from either end.
func (r *maker) end(most int64) int64 {
	k := 1 + r.Int63n(most)
	if r.Intn(2) == 0 {
		return -k
	}
	return k
}

// dates has days near one, that can be.
func (r *maker) dates() Node {
	n := Node{Op: Dates}
	for range r.Intn(20) {
		n.N = append(n.N, min(max(r.near+r.Int63n(80)-40, 1), api.MaxDay))
	}
	return n
}

// node makes a node that can be, of the calendars that are named.
func (r *maker) node(deep int, names []string) Node {
	op := 1 + r.Intn(10)
	if deep == 0 {
		op = 1 + r.Intn(4)
	}
	if len(names) == 0 && (op == Work || op == Ref) {
		op = Week
	}
	switch op {
	case Week:
		return week7(r.Int63n(128))
	case Dates:
		return r.dates()
	case Month:
		return month31(r.end(31), r.end(31), r.end(31))
	case Nth:
		return nth(r.Int63n(7), r.end(5))
	case Work:
		return workday(r.end(23), names[r.Intn(len(names))])
	case Fiscal:
		return fiscal([]int64{445, 454, 544}[r.Intn(3)], 1+r.Int63n(12))
	case Ref:
		return ref(names[r.Intn(len(names))])
	case Not:
		return not(r.node(deep-1, names))
	}
	n := Node{Op: op}
	for range 1 + r.Intn(4) {
		n.Kids = append(n.Kids, r.node(deep-1, names))
	}
	return n
}

// cals makes calendars that go to those ahead alone, in some order.
func (r *maker) cals() []Cal {
	var l []Cal
	for i, name := range r.names {
		l = append(l, calendar(name, r.node(3, r.names[:i])))
	}
	r.Shuffle(len(l), func(i, k int) { l[i], l[k] = l[k], l[i] })
	return l
}
