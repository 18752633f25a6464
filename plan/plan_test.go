package plan

import (
	"math"
	"slices"
	"testing"

	"dayshift/api"
	"dayshift/book"
	"dayshift/job"
)

var wrongClocks = []int64{-1, api.MaxClock + 1, math.MinInt64, math.MaxInt64}

var wrongDays = []int64{0, -1, api.MaxDay + 1, math.MinInt64, math.MaxInt64}

// lastNumber is the greatest one of a job, and of a run.
const lastNumber = 1<<31 - 1

func made(t *testing.T, source string) *book.Book {
	t.Helper()
	b, f, e := book.New(source)
	if e != api.OK {
		t.Fatalf("book.New(%q): %v %d", source, f, e)
	}
	return b
}

// loaded makes a plan that can be.
func loaded(t *testing.T, l []job.State, day, id, run int64) *Plan {
	t.Helper()
	p, e := Load(l, day, id, run)
	if e != api.OK {
		t.Fatal("Load", l, day, id, run, e)
	}
	return p
}

// all is what can be told of a plan.
type all struct {
	list    []job.State
	n       int
	day     int64
	nextJob int64
	nextRun int64
	isNil   bool
}

func allOf(p *Plan) all {
	id, run := p.Next()
	return all{list: p.List(), n: p.Len(), day: p.Day(), nextJob: id, nextRun: run, isNil: p == nil}
}

func (a all) same(b all) bool {
	return slices.Equal(a.list, b.list) && a.n == b.n && a.day == b.day && a.nextJob == b.nextJob && a.nextRun == b.nextRun && a.isNil == b.isNil
}

// unchanged asks that a plan is as it was.
func unchanged(t *testing.T, what string, p *Plan, was all) {
	t.Helper()
	if now := allOf(p); !now.same(was) {
		t.Error(what, "changes the plan", now, "not", was)
	}
}

func checkAdd(t *testing.T, p *Plan, place int, day, at, want int64, wantError api.Errno) {
	t.Helper()
	was := allOf(p)
	if id, e := p.Add(place, day, at); id != want || e != wantError {
		t.Error("Add", place, day, at, id, e, "not", want, wantError)
	}
	if wantError != api.OK {
		unchanged(t, "Add", p, was)
	}
}

func checkGet(t *testing.T, p *Plan, id int64, want job.State, wantError api.Errno) {
	t.Helper()
	if s, e := p.Get(id); s != want || e != wantError {
		t.Error("Get", id, s, e, "not", want, wantError)
	}
}

func checkRun(t *testing.T, p *Plan, run int64, want job.State, wantError api.Errno) {
	t.Helper()
	if s, e := p.Run(run); s != want || e != wantError {
		t.Error("Run", run, s, e, "not", want, wantError)
	}
}

func checkSet(t *testing.T, p *Plan, s job.State, want api.Errno) {
	t.Helper()
	was := allOf(p)
	if e := p.Set(s); e != want {
		t.Error("Set", s, e, "not", want)
	}
	if want != api.OK {
		unchanged(t, "Set", p, was)
	}
}

func checkDrop(t *testing.T, p *Plan, id int64, want api.Errno) {
	t.Helper()
	was := allOf(p)
	if e := p.Drop(id); e != want {
		t.Error("Drop", id, e, "not", want)
	}
	if want != api.OK {
		unchanged(t, "Drop", p, was)
	}
}

func checkStart(t *testing.T, p *Plan, want int64, wantError api.Errno) {
	t.Helper()
	was := allOf(p)
	if run, e := p.Start(); run != want || e != wantError {
		t.Error("Start", run, e, "not", want, wantError)
	}
	if wantError == api.OK {
		was.nextRun++
	}
	unchanged(t, "Start", p, was)
}

func checkAll(t *testing.T, p *Plan, l []job.State, day, id, run int64) {
	t.Helper()
	unchanged(t, "something", p, all{list: l, n: len(l), day: day, nextJob: id, nextRun: run})
}

// runs is a job that is under way.
func runs(id, run int64) job.State {
	return job.State{Id: id, Day: 1, State: api.Run, Runs: 1, Run: run}
}

func TestNew(t *testing.T) { // P18.1
	p := New()
	checkAll(t, p, nil, 0, 1, 1)
	checkGet(t, p, 1, job.State{}, api.ErrNone)
	checkDrop(t, p, 1, api.ErrNone)
	checkRun(t, p, 0, job.State{}, api.ErrNone)
	if New() == New() {
		t.Error("New tells one plan twice")
	}
}

func TestAdd(t *testing.T) { // P18.1
	p := New()
	checkAdd(t, p, 3, 5, 7, 1, api.OK)
	checkAdd(t, p, 3, 5, 7, 2, api.OK)
	checkAdd(t, p, 0, 1, 0, 3, api.OK)
	checkAdd(t, p, api.MaxJobs-1, api.MaxDay, api.MaxClock, 4, api.OK)
	checkAll(t, p, []job.State{{Id: 1, Job: 3, Day: 5, At: 7}, {Id: 2, Job: 3, Day: 5, At: 7}, {Id: 3, Day: 1}, {Id: 4, Job: api.MaxJobs - 1, Day: api.MaxDay, At: api.MaxClock}}, 0, 5, 1)
	for _, place := range []int{-1, api.MaxJobs, math.MinInt, math.MaxInt} {
		checkAdd(t, p, place, 1, 1, 0, api.ErrArg)
	}
	for _, day := range wrongDays {
		checkAdd(t, p, 0, day, 1, 0, api.ErrArg)
	}
	for _, at := range wrongClocks {
		checkAdd(t, p, 0, 1, at, 0, api.ErrArg)
	}
	checkAdd(t, p, 0, 1, 1, 5, api.OK)
	checkGet(t, p, 5, job.State{Id: 5, Day: 1, At: 1}, api.OK)
}

func TestAddToOneThatIsFull(t *testing.T) { // P18.1, P18.5
	p := New()
	for i := range int64(api.MaxActive) {
		checkAdd(t, p, 0, 1, 0, i+1, api.OK)
	}
	checkAdd(t, p, 0, 1, 0, 0, api.ErrFull)
	checkAdd(t, p, -1, 0, -1, 0, api.ErrFull)
	checkDrop(t, p, 7, api.OK)
	checkAdd(t, p, -1, 0, -1, 0, api.ErrArg)
	checkAdd(t, p, 0, 1, 0, api.MaxActive+1, api.OK)
	checkAdd(t, p, 0, 1, 0, 0, api.ErrFull)
	if p.Len() != api.MaxActive {
		t.Error("Len", p.Len())
	}
}

func TestLastNumbers(t *testing.T) { // P18.1, P18.5
	p := loaded(t, nil, 0, lastNumber-1, lastNumber-1)
	checkAdd(t, p, 0, 1, 0, lastNumber-1, api.OK)
	checkAdd(t, p, 0, 1, 0, lastNumber, api.OK)
	checkAdd(t, p, 0, 1, 0, 0, api.ErrFull)
	checkAdd(t, p, -1, 0, -1, 0, api.ErrFull)
	checkStart(t, p, lastNumber-1, api.OK)
	checkStart(t, p, lastNumber, api.OK)
	checkStart(t, p, 0, api.ErrFull)
	checkStart(t, p, 0, api.ErrFull)
	checkDrop(t, p, lastNumber, api.OK)
	checkAdd(t, p, 0, 1, 0, 0, api.ErrFull)
	checkSet(t, p, runs(lastNumber-1, lastNumber), api.OK)
	checkRun(t, p, lastNumber, runs(lastNumber-1, lastNumber), api.OK)
	checkAll(t, p, []job.State{runs(lastNumber-1, lastNumber)}, 0, 1<<31, 1<<31)
}

func TestStart(t *testing.T) { // P18.1, P18.5
	p := New()
	for i := range int64(200) {
		checkStart(t, p, i+1, api.OK)
	}
	checkAll(t, p, nil, 0, 1, 201)
}

func TestGetSetAndDrop(t *testing.T) { // P18.1
	p := New()
	for range 3 {
		p.Add(4, 5, 6)
	}
	for _, id := range []int64{0, -1, 4, 1<<31 + 1, 1<<32 + 1, math.MinInt64, math.MaxInt64} {
		checkGet(t, p, id, job.State{}, api.ErrNone)
		checkDrop(t, p, id, api.ErrNone)
	}
	other := job.State{Id: 2, Job: 9, Day: 8, Hold: true, Runs: 3, Tries: 2, At: 1}
	checkSet(t, p, other, api.OK)
	checkAll(t, p, []job.State{{Id: 1, Job: 4, Day: 5, At: 6}, other, {Id: 3, Job: 4, Day: 5, At: 6}}, 0, 4, 1)
	checkGet(t, p, 2, other, api.OK)
	checkSet(t, p, job.State{Id: 4, Day: 1}, api.ErrNone)
	for _, wrong := range []job.State{{}, {Id: 2}, {Id: 2, Day: 1, Run: 1}, {Id: 4}, {Id: -1, Day: 1}, {Id: 2, Day: 1, State: 4}, {Id: 2, Day: 1, State: api.Run}} {
		checkSet(t, p, wrong, api.ErrArg)
	}
	checkDrop(t, p, 2, api.OK)
	checkDrop(t, p, 2, api.ErrNone)
	checkSet(t, p, other, api.ErrNone)
	checkGet(t, p, 2, job.State{}, api.ErrNone)
	checkAll(t, p, []job.State{{Id: 1, Job: 4, Day: 5, At: 6}, {Id: 3, Job: 4, Day: 5, At: 6}}, 0, 4, 1)
}

func TestRun(t *testing.T) { // P18.1
	p := New()
	for range 4 {
		p.Add(0, 1, 0)
	}
	checkSet(t, p, runs(2, 7), api.OK)
	checkSet(t, p, runs(3, 1), api.OK)
	checkRun(t, p, 7, runs(2, 7), api.OK)
	checkRun(t, p, 1, runs(3, 1), api.OK)
	for _, run := range []int64{0, -1, 2, 3, 8, 1<<32 + 1, math.MinInt64, math.MaxInt64} {
		checkRun(t, p, run, job.State{}, api.ErrNone)
	}
	over, _ := job.Kill(runs(3, 1))
	checkSet(t, p, over, api.OK)
	checkRun(t, p, 1, job.State{}, api.ErrNone)
	checkDrop(t, p, 2, api.OK)
	checkRun(t, p, 7, job.State{}, api.ErrNone)
}

func TestRunOfTwo(t *testing.T) { // P18.1, rule 6
	for range 50 {
		p := New()
		for i := range int64(20) {
			p.Add(0, 1, 0)
			checkSet(t, p, runs(i+1, 5), api.OK)
		}
		checkRun(t, p, 5, runs(1, 5), api.OK)
		checkDrop(t, p, 1, api.OK)
		checkRun(t, p, 5, runs(2, 5), api.OK)
	}
}

func TestListIsByNumbers(t *testing.T) { // P18.1
	var l []job.State
	for i := range int64(api.MaxActive) {
		l = append(l, job.State{Id: 1 + i*37%101, Job: int(i % 48), Day: 1 + i%7})
	}
	p := loaded(t, l, 0, 200, 1)
	slices.SortFunc(l, func(a, b job.State) int { return int(a.Id - b.Id) })
	for range 20 {
		checkAll(t, p, l, 0, 200, 1)
	}
}

func TestListsAreTheirOwn(t *testing.T) { // rules 4 and 5
	given := []job.State{{Id: 1, Day: 1}, {Id: 2, Day: 1}}
	p := loaded(t, given, 1, 5, 1)
	was := allOf(p)
	given[0], given[1] = job.State{Id: 3, Day: 9}, job.State{}
	unchanged(t, "what was handed in", p, was)
	l := p.List()
	l[0].Job = 7
	_ = append(l[:1], job.State{Id: 8})
	unchanged(t, "a list that was told", p, was)
	b := made(t, "calendar w = week(mon, tue); job a { days w; } job b { days w; }")
	_, came, _ := p.Turn(b, 8, 0)
	came[0] = 99
	_ = append(came[:1], 77)
	if _, more, _ := p.Turn(b, 9, 0); !slices.Equal(more, []int64{7, 8}) {
		t.Error("Turn", more)
	}
}

func TestCopy(t *testing.T) { // P18.1
	p := loaded(t, []job.State{{Id: 2, Day: 3}, runs(4, 6)}, 9, 7, 8)
	q := p.Copy()
	was := allOf(p)
	unchanged(t, "Copy", q, was)
	checkDrop(t, q, 2, api.OK)
	checkSet(t, q, runs(4, 7), api.OK)
	checkAdd(t, q, 1, 1, 1, 7, api.OK)
	checkStart(t, q, 8, api.OK)
	q.Turn(made(t, ""), 10, 0)
	unchanged(t, "what is done to its copy", p, was)
	was = allOf(q)
	checkDrop(t, p, 4, api.OK)
	checkAdd(t, p, 5, 5, 5, 7, api.OK)
	checkStart(t, p, 8, api.OK)
	p.Turn(made(t, ""), 11, 0)
	unchanged(t, "what is done to the other one", q, was)
}

func TestOfNil(t *testing.T) { // P18: of nil
	var p *Plan
	for _, id := range []int64{1, 0, -1, math.MaxInt64} {
		checkAdd(t, p, int(id), id, id, 0, api.ErrNil)
		checkGet(t, p, id, job.State{}, api.ErrNil)
		checkRun(t, p, id, job.State{}, api.ErrNil)
		checkDrop(t, p, id, api.ErrNil)
		checkSet(t, p, job.State{Id: id, Day: 1}, api.ErrNil)
		for _, b := range []*book.Book{nil, {}, made(t, "job a { }")} {
			if n, l, e := p.Turn(b, id, id); n != 0 || len(l) != 0 || e != api.ErrNil {
				t.Error("Turn", n, l, e)
			}
		}
	}
	if run, e := p.Start(); run != 0 || e != api.ErrNil {
		t.Error("Start", run, e)
	}
	id, run := p.Next()
	if len(p.List()) != 0 || p.Len() != 0 || p.Day() != 0 || id != 0 || run != 0 || p.Copy() != nil {
		t.Error("of nil", p.List(), p.Len(), p.Day(), id, run)
	}
}

func TestOfOneThatNewDidNotMake(t *testing.T) { // P6
	checkAll(t, &Plan{}, nil, 0, 1, 1)
	p := &Plan{}
	checkSet(t, p, job.State{Id: 1, Day: 1}, api.ErrNone)
	checkDrop(t, p, 1, api.ErrNone)
	checkAdd(t, p, 0, 1, 0, 1, api.OK)
	p = (&Plan{}).Copy()
	checkStart(t, p, 1, api.OK)
	checkTurn(t, p, made(t, "calendar w = week(mon); job a { days w; }"), 1, 2, 0, []int64{1}, api.OK)
	checkAll(t, p, []job.State{{Id: 1, Day: 1, At: 2}}, 1, 2, 2)
}
