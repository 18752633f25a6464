package pool

import (
	"dayshift/api"
	"dayshift/jdl"
)

// How a lock is needed and held; units have the mode 0.
const (
	shared    = 1
	exclusive = 2
)

// kind is what a resource is: a quantity of units, or a lock.
type kind interface {
	// suits tells whether a need can be of such a resource, whatever is held.
	suits(n jdl.Need) bool
	// fits tells whether a need that suits goes together with what others hold.
	fits(n jdl.Need, u use) bool
	// share tells what somebody holds that has taken a need.
	share(n jdl.Need) share
}

// share is what one owner holds of one resource: units, or a lock in a mode.
type share struct {
	units int64
	mode  int
}

// use is what all owners together hold of one resource.
type use struct {
	units             int64
	shared, exclusive int
}

func (u use) with(s share) use {
	u.units += s.units
	switch s.mode {
	case shared:
		u.shared++
	case exclusive:
		u.exclusive++
	}
	return u
}

type quantity struct{ units int64 }

type lock struct{}

func kindOf(r jdl.Res) kind {
	if r.Lock {
		return lock{}
	}
	return quantity{min(max(r.Units, 0), api.MaxUnits)}
}

func (q quantity) suits(n jdl.Need) bool {
	return n.Mode == 0 && n.N >= 1 && n.N <= api.MaxUnits
}

func (q quantity) fits(n jdl.Need, u use) bool {
	return n.N <= q.free(u)
}

func (q quantity) free(u use) int64 {
	return q.units - u.units
}

func (q quantity) share(n jdl.Need) share {
	return share{units: n.N}
}

func (lock) suits(n jdl.Need) bool {
	return n.Mode == shared || n.Mode == exclusive
}

func (lock) fits(n jdl.Need, u use) bool {
	return u.exclusive == 0 && (n.Mode == shared || u.shared == 0)
}

func (lock) share(n jdl.Need) share {
	return share{mode: n.Mode}
}
