package cal

import (
	"dayshift/api"
	"dayshift/date"
)

// refuse tells the error of asking for a node's days, among calendars, at a day.
func refuse(l []Cal, n Node, day int64) api.Errno {
	if len(l) > api.MaxCals {
		return api.ErrSize
	}
	if !Right(n) {
		return api.ErrArg
	}
	for _, c := range l {
		if !Right(c.Days) {
			return api.ErrArg
		}
	}
	if !date.Right(day) {
		return api.ErrRange
	}
	w := walk{cals: l}
	return w.meet(n, spot{})
}

// walk goes through all that a node goes to, each time anew, so that nothing is asked that does not end.
type walk struct {
	cals []Cal
	met  int // nodes, up to now
}

// spot is where a node stands: within how many Refs, and whether in a Work's calendar.
type spot struct {
	refs   int
	inWork bool
}

// meet tells the first error of a node that can be, and of those behind it.
func (w *walk) meet(n Node, at spot) api.Errno {
	w.met++
	if w.met > api.MaxNodes || n.Op == Work && at.inWork {
		return api.ErrDeep
	}
	if n.Op == Ref || n.Op == Work {
		return w.follow(n, at)
	}
	for _, kid := range n.Kids {
		if e := w.meet(kid, at); e != api.OK {
			return e
		}
	}
	return api.OK
}

// follow meets the calendar of a Ref or a Work.
func (w *walk) follow(n Node, at spot) api.Errno {
	i := Find(w.cals, n.Name)
	if i < 0 {
		return api.ErrName
	}
	if at.refs == api.MaxCals {
		return api.ErrDeep
	}
	return w.meet(w.cals[i].Days, spot{refs: at.refs + 1, inWork: at.inWork || n.Op == Work})
}
