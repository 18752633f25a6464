package rule

import (
	"dayshift/api"
	"dayshift/cal"
	"dayshift/jdl"
)

// anyDay is one that can be: whether calendars can be hangs on no day.
const anyDay = 1

// The parts of a job that may stand but once in it, beside the kinds of items.
const (
	need = Job + 1
	out  = Job + 2
)

// stand is what may stand but once: what it is, its name, and of an outcome which day's.
type stand struct {
	what int
	name string
	when int
}

// stood has what stood already, and the place where it did.
type stood map[stand]int

// twice tells whether something stood already; what did not stands at its place from now on.
func (s stood) twice(key stand, place int) bool {
	if _, ok := s[key]; ok {
		return true
	}
	s[key] = place
	return false
}

// checker goes through the lists of a source in order: jobs find those resources that stood ahead.
type checker struct {
	source jdl.Source
	stood  stood
}

func (c checker) calendar(i int) api.Errno {
	k := c.source.Cals[i]
	if c.stood.twice(stand{what: Cal, name: k.Name}, i) {
		return api.ErrTwice
	}
	return c.days(k.Days)
}

// days tells why days can not be among the calendars.
func (c checker) days(n cal.Node) api.Errno {
	_, e := cal.In(c.source.Cals, n, anyDay)
	return e
}

func (c checker) resource(i int) api.Errno {
	r := c.source.Res[i]
	if c.stood.twice(stand{what: Res, name: r.Name}, i) {
		return api.ErrTwice
	}
	if r.Units > api.MaxUnits {
		return api.ErrRange
	}
	return api.OK
}

func (c checker) job(i int) api.Errno {
	j := c.source.Jobs[i]
	if c.stood.twice(stand{what: Job, name: j.Name}, i) {
		return api.ErrTwice
	}
	if e := c.jobDays(j); e != api.OK {
		return e
	}
	if !numbersCanBe(j) {
		return api.ErrRange
	}
	return c.parts(j)
}

func (c checker) jobDays(j jdl.Job) api.Errno {
	if j.Days.Op != 0 {
		if e := c.days(j.Days); e != api.OK {
			return e
		}
	}
	if !j.Shift {
		return api.OK
	}
	return c.days(j.Work)
}

func numbersCanBe(j jdl.Job) bool {
	return j.Prio <= api.MaxPrio && j.Wait <= api.MaxWait && j.Every <= api.MaxEvery &&
		j.Runs >= 1 && j.Runs <= api.MaxRuns && j.Retry <= api.MaxRuns
}

// parts tells the first error of what a job needs, then of its outcomes. Other jobs may have the same ones.
func (c checker) parts(j jdl.Job) api.Errno {
	met := stood{}
	for i, n := range j.Needs {
		if e := c.need(n); e != api.OK {
			return e
		}
		if met.twice(stand{what: need, name: n.Name}, i) {
			return api.ErrTwice
		}
		if n.Mode == 0 && (n.N < 1 || n.N > api.MaxUnits) {
			return api.ErrRange
		}
	}
	for i, o := range j.Out {
		if o.Add && o.When == jdl.Any {
			return api.ErrArg
		}
		if met.twice(stand{what: out, name: o.Name, when: o.When}, i) {
			return api.ErrTwice
		}
	}
	return api.OK
}

// need tells why a job can not need something: there is no such resource, or it is of the other kind.
func (c checker) need(n jdl.Need) api.Errno {
	i, ok := c.stood[stand{what: Res, name: n.Name}]
	if !ok {
		return api.ErrName
	}
	if c.source.Res[i].Lock != (n.Mode != 0) {
		return api.ErrArg
	}
	return api.OK
}
