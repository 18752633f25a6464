package rule

import (
	"math/rand"
	"reflect"
	"slices"
	"strconv"
	"testing"

	"dayshift/api"
	"dayshift/cal"
	"dayshift/jdl"
)

// finding is one thing that can not be.
type finding struct {
	what, place int
	errno       api.Errno
}

// findings has all things that can not be, in the order of the document.
func findings(x jdl.Source) []finding {
	var l []finding
	note := func(what, place int, e api.Errno, holds bool) {
		if holds && e != api.OK {
			l = append(l, finding{what, place, e})
		}
	}
	daysError := func(n cal.Node) api.Errno {
		_, e := cal.In(x.Cals, n, 1)
		return e
	}
	note(Source, 0, api.ErrRange, x.Keep > 99)
	for i, c := range x.Cals {
		note(Cal, i, api.ErrTwice, slices.ContainsFunc(x.Cals[:i], func(o cal.Cal) bool { return o.Name == c.Name }))
		note(Cal, i, daysError(c.Days), true)
	}
	for i, r := range x.Res {
		note(Res, i, api.ErrTwice, slices.ContainsFunc(x.Res[:i], func(o jdl.Res) bool { return o.Name == r.Name }))
		note(Res, i, api.ErrRange, r.Units > 1000)
	}
	for i, j := range x.Jobs {
		note(Job, i, api.ErrTwice, slices.ContainsFunc(x.Jobs[:i], func(o jdl.Job) bool { return o.Name == j.Name }))
		note(Job, i, daysError(j.Days), j.Days.Op != 0)
		note(Job, i, daysError(j.Work), j.Shift)
		note(Job, i, api.ErrRange, j.Prio > 99 || j.Wait > 99 || j.Every > 10080 || j.Runs == 0 || j.Runs > 99 || j.Retry > 99)
		for k, n := range j.Needs {
			at := slices.IndexFunc(x.Res, func(r jdl.Res) bool { return r.Name == n.Name })
			note(Job, i, api.ErrName, at < 0)
			note(Job, i, api.ErrArg, at >= 0 && x.Res[at].Lock && n.Mode == 0)
			note(Job, i, api.ErrArg, at >= 0 && !x.Res[at].Lock && n.Mode != 0)
			note(Job, i, api.ErrTwice, slices.ContainsFunc(j.Needs[:k], func(o jdl.Need) bool { return o.Name == n.Name }))
			note(Job, i, api.ErrRange, n.Mode == 0 && (n.N == 0 || n.N > 1000))
		}
		for k, o := range j.Out {
			note(Job, i, api.ErrArg, o.Add && o.When == 2)
			note(Job, i, api.ErrTwice, slices.ContainsFunc(j.Out[:k], func(p jdl.Outcome) bool { return p.Name == o.Name && p.When == o.When }))
		}
	}
	return l
}

// maker makes sources that can be, but for a few faults by chance.
type maker struct {
	*rand.Rand
	faults int // one in so many parts is wrong; none with 0
}

func newMaker(seed int64, faults int) maker {
	return maker{Rand: rand.New(rand.NewSource(seed)), faults: faults}
}

func (m maker) wrong() bool { return m.faults > 0 && m.Intn(m.faults) == 0 }

func (m maker) chance(n int) bool { return m.Intn(n) == 0 }

// names has so many, all of them others, but for one at times.
func (m maker) names(ahead string, count int) []string {
	var l []string
	for i := range count {
		l = append(l, ahead+strconv.Itoa(i))
		if m.wrong() {
			l[i] = l[m.Intn(i+1)]
		}
	}
	return l
}

func (m maker) oneOf(l []string) string {
	if len(l) == 0 || m.wrong() {
		return "none"
	}
	return l[m.Intn(len(l))]
}

// number is one from least to most, often at an end, at times beyond it.
func (m maker) number(least, most int64) int64 {
	switch {
	case m.wrong():
		return most + 1
	case m.wrong():
		return max(least-1, 0)
	case m.chance(3):
		return most
	case m.chance(3):
		return least
	}
	return least + m.Int63n(most-least+1)
}

func (m maker) node(deep int, names []string) cal.Node {
	kind := m.Intn(5)
	if deep == 0 {
		kind = m.Intn(2)
	}
	switch {
	case kind == 0:
		return cal.Node{Op: cal.Week, N: []int64{1 + m.Int63n(127)}}
	case kind == 1:
		return cal.Node{Op: cal.Month, N: []int64{m.number(1, 31)}}
	case kind == 2 && (len(names) > 0 || m.wrong()):
		return cal.Node{Op: cal.Ref, Name: m.oneOf(names)}
	case kind == 3:
		return cal.Node{Op: cal.Not, Kids: []cal.Node{m.node(deep-1, names)}}
	}
	return cal.Node{Op: cal.Or, Kids: []cal.Node{m.node(deep-1, names), m.node(deep-1, names)}}
}

func (m maker) expr(deep int) jdl.Expr {
	switch {
	case deep == 0 || m.chance(4):
		return jdl.Expr{Op: jdl.Has, Name: "x" + strconv.Itoa(m.Intn(6)), When: m.Intn(3)}
	case m.chance(3):
		return jdl.Expr{Op: jdl.Not, Kids: []jdl.Expr{m.expr(deep - 1)}}
	}
	e := jdl.Expr{Op: jdl.And + m.Intn(2)}
	for range 2 + m.Intn(3) {
		e.Kids = append(e.Kids, m.expr(deep-1))
	}
	return e
}

// again has one of a list a second time, at times, and no more of all than may be.
func again[T any](m maker, l []T, most int) []T {
	if len(l) > 0 && m.wrong() {
		l = append(l, l[m.Intn(len(l))])
	}
	return l[:min(len(l), most)]
}

func (m maker) needs(res []jdl.Res) []jdl.Need {
	var l []jdl.Need
	for _, i := range m.Perm(len(res))[:m.Intn(len(res)+1)] {
		n := jdl.Need{Name: res[i].Name, N: m.number(1, 1000)}
		if res[i].Lock != m.wrong() {
			n.N, n.Mode = 0, 1+m.Intn(2)
		}
		if m.wrong() {
			n.Name = "none"
		}
		l = again(m, append(l, n), api.MaxNeeds)
	}
	return l
}

func (m maker) outs() []jdl.Outcome {
	var l []jdl.Outcome
	for _, k := range m.Perm(12)[:m.Intn(api.MaxOuts+1)] {
		o := jdl.Outcome{Name: "x" + strconv.Itoa(k/3), When: k % 3}
		o.Add = o.When != jdl.Any && m.chance(2) || m.wrong()
		l = again(m, append(l, o), api.MaxOuts)
	}
	return l
}

func (m maker) job(name string, cals []string, res []jdl.Res) jdl.Job {
	j := jdl.Job{Name: name, To: 1439, Needs: m.needs(res), Out: m.outs()}
	j.Prio, j.Wait, j.Every, j.Runs, j.Retry = m.number(0, 99), m.number(0, 99), m.number(0, 10080), m.number(1, 99), m.number(0, 99)
	if m.chance(2) {
		j.Days = m.node(2, cals)
	}
	if m.chance(2) {
		j.Shift, j.Dir, j.Work = true, m.Intn(3)-1, m.node(2, cals)
	}
	if m.chance(2) {
		j.In = m.expr(4)
	}
	return j
}

func (m maker) source() jdl.Source {
	x := jdl.Source{Begin: m.Int63n(api.DayMin), Keep: m.number(0, 99)}
	cals := m.names("c", m.Intn(5))
	for i, name := range cals {
		from := i + 1
		if m.wrong() {
			from = 0 // it may go round
		}
		x.Cals = append(x.Cals, cal.Cal{Name: name, Days: m.node(2, cals[from:])})
	}
	for _, name := range m.names("r", m.Intn(6)) {
		r := jdl.Res{Name: name, Units: m.number(0, 1000)}
		if m.chance(2) {
			r.Units, r.Lock = 0, true
		}
		x.Res = append(x.Res, r)
	}
	for _, name := range m.names("j", m.Intn(6)) {
		x.Jobs = append(x.Jobs, m.job(name, cals, x.Res))
	}
	return x
}

// said is a source as Parse tells it.
func said(t *testing.T, x jdl.Source) jdl.Source {
	t.Helper()
	y, at, e := jdl.Parse(jdl.Print(x))
	if e != api.OK || !reflect.DeepEqual(x, y) {
		t.Fatal("not as it was made", at, e, jdl.Print(x))
	}
	return y
}

func TestAnySources(t *testing.T) { // P9.1
	seen := map[finding]int{}
	for seed := range int64(20000) {
		x := said(t, newMaker(seed, 10<<(seed%5)).source())
		want := finding{Source, 0, api.OK}
		if l := findings(x); len(l) > 0 {
			want = l[0]
		}
		what, place, e := Check(x)
		if (finding{what, place, e}) != want {
			t.Fatal(seed, what, place, e, want, jdl.Print(x))
		}
		seen[finding{what: what, errno: e}]++
	}
	for _, f := range []finding{
		{Source, 0, api.OK}, {Source, 0, api.ErrRange},
		{Cal, 0, api.ErrTwice}, {Cal, 0, api.ErrArg}, {Cal, 0, api.ErrName}, {Cal, 0, api.ErrDeep},
		{Res, 0, api.ErrTwice}, {Res, 0, api.ErrRange},
		{Job, 0, api.ErrTwice}, {Job, 0, api.ErrArg}, {Job, 0, api.ErrName}, {Job, 0, api.ErrRange},
	} {
		if seen[f] < 20 {
			t.Error("seen too seldom", f, seen[f])
		}
	}
}

// without has all of a list but one.
func without[T any](l []T, i int) []T {
	return slices.Delete(slices.Clone(l), i, i+1)
}

func needed(x jdl.Source, name string) bool {
	return slices.ContainsFunc(x.Jobs, func(j jdl.Job) bool {
		return slices.ContainsFunc(j.Needs, func(n jdl.Need) bool { return n.Name == name })
	})
}

func TestWithoutOne(t *testing.T) { // P9.3
	jobs, resources := 0, 0
	for seed := range int64(2000) {
		x := newMaker(seed, 0).source()
		if what, place, e := Check(x); what != Source || place != 0 || e != api.OK {
			t.Fatal("can be", what, place, e, jdl.Print(x))
		}
		for i := range x.Jobs {
			y := x
			y.Jobs = without(x.Jobs, i)
			if what, place, e := Check(y); what != Source || place != 0 || e != api.OK {
				t.Fatal("without a job", what, place, e, jdl.Print(y))
			}
			jobs++
		}
		last := len(x.Res) - 1
		if last < 0 || needed(x, x.Res[last].Name) {
			continue
		}
		y := x
		y.Res = without(x.Res, last)
		if what, place, e := Check(y); what != Source || place != 0 || e != api.OK {
			t.Fatal("without a resource", what, place, e, jdl.Print(y))
		}
		resources++
	}
	if jobs < 1000 || resources < 100 {
		t.Error("too few", jobs, resources)
	}
}

func TestJobsInAnyOrder(t *testing.T) { // P9.4
	moved := 0
	for seed := range int64(5000) {
		m := newMaker(seed, 60)
		x := m.source()
		y := x
		y.Jobs = slices.Clone(x.Jobs)
		m.Shuffle(len(y.Jobs), func(i, k int) { y.Jobs[i], y.Jobs[k] = y.Jobs[k], y.Jobs[i] })
		what, place, e := Check(x)
		what2, place2, e2 := Check(y)
		if what != what2 || (e == api.OK) != (e2 == api.OK) || what != Job && (place != place2 || e != e2) {
			t.Fatal("in another order", what, place, e, what2, place2, e2, jdl.Print(x))
		}
		if what != Job || e == api.ErrTwice || slices.ContainsFunc(findings(x), func(f finding) bool { return f.place != place }) {
			continue
		}
		if !reflect.DeepEqual(x.Jobs[place], y.Jobs[place2]) || e != e2 {
			t.Fatal("another job", place, e, place2, e2, jdl.Print(x))
		}
		moved++
	}
	if moved < 100 {
		t.Error("too few", moved)
	}
}
