package jdl

import (
	"dayshift/api"
	"dayshift/cal"
)

// What is not said.
const (
	usualKeep = 7
	usualTo   = api.DayMin - 1
	usualRuns = 1
)

// outside is the number that no job has: items stand there.
const outside = 0

func (r *reader) source() Source {
	x := Source{Keep: usualKeep}
	for len(r.words) > 0 {
		r.item(&x)
	}
	return x
}

func (r *reader) item(x *Source) {
	switch r.text() {
	case "begin":
		r.once(outside)
		x.Begin = said(r, r.time)
	case "keep":
		r.once(outside)
		x.Keep = said(r, r.number)
	case "calendar":
		r.room(len(x.Cals), api.MaxCals)
		x.Cals = append(x.Cals, said(r, r.calendar))
	case "resource":
		r.room(len(x.Res), api.MaxRes)
		x.Res = append(x.Res, said(r, r.resource))
	case "lock":
		r.room(len(x.Res), api.MaxRes)
		x.Res = append(x.Res, said(r, r.lock))
	case "job":
		r.room(len(x.Jobs), api.MaxJobs)
		x.Jobs = append(x.Jobs, r.job(len(x.Jobs)+1))
	default:
		panic(r.fault(api.ErrSyntax))
	}
}

// said reads what stands between a first word, which is the next one, and a ";".
func said[T any](r *reader, part func() T) T {
	r.skip()
	x := part()
	r.must(";")
	return x
}

func (r *reader) calendar() cal.Cal {
	name := r.name()
	r.must("=")
	return cal.Cal{Name: name, Days: r.days()}
}

func (r *reader) resource() Res {
	name := r.name()
	return Res{Name: name, Units: r.number()}
}

func (r *reader) lock() Res {
	return Res{Name: r.name(), Lock: true}
}

func (r *reader) job(number int) Job {
	r.skip()
	j := Job{Name: r.name(), To: usualTo, Runs: usualRuns}
	r.must("{")
	for !r.take("}") {
		r.part(&j, number)
	}
	return j
}

// part reads one that may stand several times, or one that may stand once.
func (r *reader) part(j *Job, number int) {
	switch r.text() {
	case "out":
		left := api.MaxOuts - len(j.Out)
		j.Out = append(j.Out, said(r, func() []Outcome { return list(r, ",", left, r.outcome) })...)
	case "need":
		r.room(len(j.Needs), api.MaxNeeds)
		j.Needs = append(j.Needs, said(r, r.need))
	case "use":
		r.room(len(j.Needs), api.MaxNeeds)
		j.Needs = append(j.Needs, said(r, r.use))
	default:
		r.once(number)
		r.single(j)
	}
}

func (r *reader) single(j *Job) {
	switch r.text() {
	case "days":
		j.Days = said(r, r.days)
	case "shift":
		moved := said(r, r.shift)
		j.Shift, j.Dir, j.Work = true, moved.dir, moved.work
	case "window":
		times := said(r, r.window)
		j.From, j.To = times[0], times[1]
	case "in":
		j.In = said(r, r.cond)
	case "prio":
		j.Prio = said(r, r.number)
	case "wait":
		j.Wait = said(r, r.number)
	case "every":
		j.Every = said(r, r.number)
	case "runs":
		j.Runs = said(r, r.number)
	case "retry":
		j.Retry = said(r, r.number)
	default:
		panic(r.fault(api.ErrSyntax))
	}
}

// shift is where days are moved.
type shift struct {
	dir  int
	work cal.Node
}

func (r *reader) shift() shift {
	dir := r.choice(dirWords()) - 1
	return shift{dir: dir, work: r.days()}
}

func (r *reader) window() [2]int64 {
	from := r.time()
	return [2]int64{from, r.time()}
}

func (r *reader) need() Need {
	name := r.name()
	return Need{Name: name, N: r.number()}
}

func (r *reader) use() Need {
	name := r.name()
	return Need{Name: name, Mode: r.choice(modeWords()) + 1}
}
