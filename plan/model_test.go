package plan

import (
	"math/rand"
	"slices"
	"strconv"
	"strings"
	"testing"

	"dayshift/api"
	"dayshift/book"
	"dayshift/job"
)

// model is a plan as a list in the order in which its jobs came.
type model struct {
	jobs         []job.State
	day, id, run int64
}

func (m *model) find(id int64) int {
	return slices.IndexFunc(m.jobs, func(s job.State) bool { return s.Id == id })
}

func (m *model) add(place int, day, at int64) (int64, api.Errno) {
	if len(m.jobs) == 64 || m.id > lastNumber {
		return 0, api.ErrFull
	}
	if place < 0 || place > 47 || day < 1 || day > 3652059 || at < 0 || at > 5258966399 {
		return 0, api.ErrArg
	}
	m.jobs = append(m.jobs, job.State{Id: m.id, Job: place, Day: day, At: at})
	m.id++
	return m.id - 1, api.OK
}

func (m *model) set(s job.State) api.Errno {
	if !job.Right(s) {
		return api.ErrArg
	}
	i := m.find(s.Id)
	if i < 0 {
		return api.ErrNone
	}
	m.jobs[i] = s
	return api.OK
}

func (m *model) drop(id int64) api.Errno {
	i := m.find(id)
	if i < 0 {
		return api.ErrNone
	}
	m.jobs = slices.Delete(m.jobs, i, i+1)
	return api.OK
}

func (m *model) start() (int64, api.Errno) {
	if m.run > lastNumber {
		return 0, api.ErrFull
	}
	m.run++
	return m.run - 1, api.OK
}

// turn goes by all jobs of the book, one by one.
func (m *model) turn(b *book.Book, day, at int64) (int, []int64, api.Errno) {
	switch {
	case b == nil:
		return 0, nil, api.ErrNil
	case day < 1 || day > 3652059:
		return 0, nil, api.ErrRange
	case day <= m.day:
		return 0, nil, api.OK
	case at < 0 || at > 5258966399:
		return 0, nil, api.ErrArg
	}
	was := model{slices.Clone(m.jobs), m.day, m.id, m.run}
	m.jobs = slices.DeleteFunc(m.jobs, func(s job.State) bool { return modelGoes(b, s, day) })
	gone := len(was.jobs) - len(m.jobs)
	var came []int64
	for place := range b.Len() {
		due, _ := b.Due(place, day)
		there := slices.ContainsFunc(m.jobs, func(s job.State) bool { return s.Job == place && s.Day == day })
		if !due || there {
			continue
		}
		id, e := m.add(place, day, at)
		if e != api.OK {
			*m = was
			return 0, nil, e
		}
		came = append(came, id)
	}
	m.day = day
	return gone, came, api.OK
}

// modelGoes tells what a new day does to one job.
func modelGoes(b *book.Book, s job.State, day int64) bool {
	if s.State == 1 {
		return false
	}
	if s.Job >= b.Len() || s.State == 2 && s.Day < day {
		return true
	}
	j, _ := b.Job(s.Job)
	return s.Day+j.Wait < day
}

func (m *model) all() all {
	l := slices.Clone(m.jobs)
	slices.SortFunc(l, func(a, b job.State) int { return int(a.Id - b.Id) })
	return all{list: l, n: len(l), day: m.day, nextJob: m.id, nextRun: m.run}
}

// anyBook has jobs of weekdays, and of no day.
func anyBook(t *testing.T, r *rand.Rand) *book.Book {
	t.Helper()
	names := strings.Fields("mon tue wed thu fri sat sun")
	var s strings.Builder
	for i := range r.Intn(oneOf(r, 5, 20, 48) + 1) {
		s.WriteString("job j" + strconv.Itoa(i) + " { ")
		if r.Intn(4) > 0 {
			s.WriteString("days week(" + names[r.Intn(7)] + ", " + names[r.Intn(7)] + ", " + names[r.Intn(7)] + "); ")
		}
		s.WriteString("wait " + strconv.Itoa(oneOf(r, 0, 0, 1, 2, 9)) + "; } ")
	}
	return made(t, s.String())
}

func oneOf[T any](r *rand.Rand, l ...T) T { return l[r.Intn(len(l))] }

// anyJobs tells a list that can be loaded, in any order, and the numbers that come next.
func anyJobs(r *rand.Rand) ([]job.State, int64, int64) {
	id := oneOf[int64](r, 1, 2, 70, 1<<31-70, 1<<31)
	run := id
	var l []job.State
	for range r.Intn(oneOf(r, 1, 5, 65)) {
		if id <= lastNumber {
			s := job.State{Id: id, Job: r.Intn(48), Day: 1 + r.Int63n(25), State: r.Intn(4)}
			if s.State == api.Run {
				s.Run = run
				run++
			}
			l = append(l, s)
			id++
		}
	}
	r.Shuffle(len(l), func(i, k int) { l[i], l[k] = l[k], l[i] })
	return l, id, run
}

// anyId tells the number of a job that is there, most often.
func anyId(r *rand.Rand, m *model) int64 {
	if len(m.jobs) == 0 || r.Intn(8) == 0 {
		return oneOf(r, 0, -1, 1, m.id-1, m.id, m.id+1)
	}
	return m.jobs[r.Intn(len(m.jobs))].Id
}

// anyStep tells how a job stands behind some step.
func anyStep(r *rand.Rand, m *model, id int64) job.State {
	i := m.find(id)
	if i < 0 {
		return job.State{Id: id, Job: r.Intn(50) - 1, Day: r.Int63n(20)}
	}
	s, next := m.jobs[i], job.State{}
	e := api.OK
	switch r.Intn(8) {
	case 0, 1, 2:
		next, e = job.Submit(s, oneOf(r, m.run-1, m.run-1, m.run-1, 1, 2, m.run))
	case 3:
		next, e = job.Kill(s)
	case 4:
		next, e = job.Hold(s)
	case 5:
		next, e = job.Ok(s)
	case 6:
		next, e = job.Rerun(s, r.Int63n(9000))
	default:
		s.Job, s.Day = r.Intn(50)-1, r.Int63n(25)
		return s
	}
	if e != api.OK {
		return s
	}
	return next
}

// answer is what a call answers, of whatever kind.
type answer struct {
	n, first int64
	came     string
	s        job.State
	e        api.Errno
}

func numbersText(l []int64) string {
	var s strings.Builder
	for _, n := range l {
		s.WriteString(strconv.FormatInt(n, 10) + " ")
	}
	return s.String()
}

// both does one thing to a plan and to a model of it, and tells what each answered.
func both(r *rand.Rand, p *Plan, m *model, b *book.Book) (answer, answer) {
	var x, y answer
	id := anyId(r, m)
	at := oneOf[int64](r, 0, 1, 9999, api.MaxClock, api.MaxClock, -1, api.MaxClock+1)
	switch r.Intn(9) {
	case 0:
		place, day := r.Intn(51)-1, r.Int63n(30)
		x.n, x.e = p.Add(place, day, at)
		y.n, y.e = m.add(place, day, at)
	case 1, 2, 3:
		s := anyStep(r, m, id)
		x.e, y.e = p.Set(s), m.set(s)
	case 4:
		x.e, y.e = p.Drop(id), m.drop(id)
	case 5:
		x.n, x.e = p.Start()
		y.n, y.e = m.start()
	case 6:
		x.s, x.e = p.Get(id)
		y.e = api.ErrNone
		if i := m.find(id); i >= 0 {
			y.s, y.e = m.jobs[i], api.OK
		}
	case 7:
		run := oneOf[int64](r, 0, 1, 2, m.run-1, m.run-1, m.run-2)
		x.s, x.e = p.Run(run)
		y.e = api.ErrNone
		for _, s := range m.all().list {
			if s.State == api.Run && s.Run == run && y.e == api.ErrNone {
				y.s, y.e = s, api.OK
			}
		}
	case 8:
		day := oneOf(r, m.day+1, m.day+1, m.day+1, m.day+2, m.day, m.day-1, 0, api.MaxDay+1)
		book := oneOf(r, b, b, b, b, b, b, nil)
		gone, came, e := p.Turn(book, day, at)
		x = answer{n: int64(gone), came: numbersText(came), e: e}
		gone, came, e = m.turn(book, day, at)
		y = answer{n: int64(gone), came: numbersText(came), e: e}
	}
	return x, y
}

func TestAnyPlan(t *testing.T) { // P18.1, P18.2, P18.3, P18.6
	r := rand.New(rand.NewSource(1))
	told := map[api.Errno]int{}
	for range 500 {
		b := anyBook(t, r)
		l, id, run := anyJobs(r)
		m := &model{jobs: slices.Clone(l), day: r.Int63n(10), id: id, run: run}
		p := loaded(t, l, m.day, id, run)
		for range 150 {
			x, y := both(r, p, m, b)
			if x != y {
				t.Fatal("a call", x, "not", y)
			}
			told[x.e]++
			if now := allOf(p); !now.same(m.all()) {
				t.Fatal("the plan", now, "not", m.all())
			}
			if r.Intn(20) == 0 {
				p = p.Copy()
			}
			if q, ok := again(p); ok {
				p = q
			}
		}
	}
	for _, e := range []api.Errno{api.OK, api.ErrNil, api.ErrFull, api.ErrArg, api.ErrNone, api.ErrRange} {
		if told[e] < 300 {
			t.Error("too few of", e, told[e])
		}
	}
}

// again loads a plan of what it tells; that can not be, if numbers of runs were set that it did not give.
func again(p *Plan) (*Plan, bool) {
	id, run := p.Next()
	q, e := Load(p.List(), p.Day(), id, run)
	return q, e == api.OK
}

// mustAgain is again of a plan in which only its own numbers were set.
func mustAgain(t *testing.T, p *Plan) *Plan {
	t.Helper()
	q, ok := again(p)
	if !ok {
		t.Fatal("a plan can not be loaded of what it tells", allOf(p))
	}
	return q
}

// ticket is a job of the book of a day.
type ticket struct {
	place int
	day   int64
}

func TestDaysBringEachJobOnce(t *testing.T) { // P18.4, P4
	r := rand.New(rand.NewSource(2))
	full := 0
	for range 150 {
		b, p := anyBook(t, r), New()
		came := map[ticket]int{}
		for day := int64(1); day <= 30; day++ {
			for range 1 + r.Intn(3) {
				_, l, e := p.Turn(b, day, r.Int63n(3)-1)
				if e == api.ErrFull {
					full++
					p.Drop(p.List()[r.Intn(p.Len())].Id)
				}
				for _, id := range l {
					s, _ := p.Get(id)
					came[ticket{s.Job, s.Day}]++
				}
				anyTrouble(r, p)
				p = mustAgain(t, p)
			}
			checkCame(t, b, p, came, day)
		}
	}
	if full < 20 {
		t.Error("too few were full", full)
	}
}

// anyTrouble lets a job run, end, or go.
func anyTrouble(r *rand.Rand, p *Plan) {
	for range r.Intn(12) {
		if p.Len() == 0 {
			return
		}
		s := p.List()[r.Intn(p.Len())]
		switch r.Intn(4) {
		case 0, 1:
			run, _ := p.Start()
			if next, e := job.Submit(s, run); e == api.OK {
				p.Set(next)
			}
		case 2:
			if next, e := job.Ok(s); e == api.OK {
				p.Set(next)
			}
		case 3:
			if next, e := job.Kill(s); e == api.OK {
				p.Set(next)
			}
		}
	}
}

// checkCame asks that a day brought just its jobs, each once, or none, if the plan did not turn to it.
func checkCame(t *testing.T, b *book.Book, p *Plan, came map[ticket]int, day int64) {
	t.Helper()
	for place := range b.Len() {
		due, _ := b.Due(place, day)
		n := came[ticket{place, day}]
		if due && p.Day() == day && n != 1 || (!due || p.Day() != day) && n != 0 {
			t.Fatal("a job came", n, "times", place, day, p.Day())
		}
	}
	for x := range came {
		if x.day > day {
			t.Fatal("a job came too early", x, day)
		}
	}
}

func TestJobsAreCarriedOver(t *testing.T) { // P4
	for wait := range int64(5) {
		b := made(t, "calendar w = week(mon); job a { days w; wait "+strconv.FormatInt(wait, 10)+"; }")
		p := New()
		p.Turn(b, 1, 0)
		for day := int64(2); day <= 7; day++ {
			p.Turn(b, day, 0)
			if there := p.Len() == 1; there != (day <= 1+wait) {
				t.Error("waits", wait, "day", day, there)
			}
		}
	}
}

func TestNumbersAreGivenOnce(t *testing.T) { // P18.5
	r := rand.New(rand.NewSource(3))
	for range 100 {
		b, p := anyBook(t, r), New()
		lastJob, lastRun := int64(0), int64(0)
		for day := int64(1); day <= 40; day++ {
			_, came, _ := p.Turn(b, day, 0)
			if id, e := p.Add(r.Intn(49), day, 0); e == api.OK {
				came = append(came, id)
			}
			for _, id := range came {
				if id != lastJob+1 {
					t.Fatal("a job's number", id, "behind", lastJob)
				}
				lastJob = id
			}
			run, e := p.Start()
			if run != lastRun+1 || e != api.OK {
				t.Fatal("a run's number", run, e, "behind", lastRun)
			}
			lastRun = run
			for _, s := range p.List() {
				if r.Intn(3) == 0 {
					p.Drop(s.Id)
				}
			}
			p = mustAgain(t, p)
		}
	}
}
