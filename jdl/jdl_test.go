package jdl

import (
	"reflect"
	"strings"
	"testing"

	"dayshift/api"
	"dayshift/cal"
	"dayshift/date"
)

func day(t *testing.T, s string) int64 {
	t.Helper()
	n, e := date.Read(s)
	if e != api.OK {
		t.Fatal("no date", s)
	}
	return n
}

func weekly(bits int64) cal.Node { return cal.Node{Op: cal.Week, N: []int64{bits}} }

func dates(l ...int64) cal.Node { return cal.Node{Op: cal.Dates, N: l} }

func month(l ...int64) cal.Node { return cal.Node{Op: cal.Month, N: l} }

func nth(wd, k int64) cal.Node { return cal.Node{Op: cal.Nth, N: []int64{wd, k}} }

func work(k int64, name string) cal.Node {
	return cal.Node{Op: cal.Work, N: []int64{k}, Name: name}
}

func fiscal(pattern, m int64) cal.Node { return cal.Node{Op: cal.Fiscal, N: []int64{pattern, m}} }

func ref(name string) cal.Node { return cal.Node{Op: cal.Ref, Name: name} }

func andDays(kids ...cal.Node) cal.Node { return cal.Node{Op: cal.And, Kids: kids} }

func orDays(kids ...cal.Node) cal.Node { return cal.Node{Op: cal.Or, Kids: kids} }

func notDays(kid cal.Node) cal.Node { return cal.Node{Op: cal.Not, Kids: []cal.Node{kid}} }

func has(name string, when int) Expr { return Expr{Op: Has, Name: name, When: when} }

func and(kids ...Expr) Expr { return Expr{Op: And, Kids: kids} }

func or(kids ...Expr) Expr { return Expr{Op: Or, Kids: kids} }

func not(kid Expr) Expr { return Expr{Op: Not, Kids: []Expr{kid}} }

// plainJob is one of which nothing but its name is said.
func plainJob(name string) Job { return Job{Name: name, To: 1439, Runs: 1} }

func parsed(t *testing.T, s string) Source {
	t.Helper()
	x, at, e := Parse(s)
	if at != 0 || e != api.OK {
		t.Fatalf("Parse(%q): %d %d", s, at, e)
	}
	return x
}

func checkSource(t *testing.T, s string, want Source) {
	t.Helper()
	if x := parsed(t, s); !reflect.DeepEqual(x, want) {
		t.Errorf("Parse(%q) = %+v, not %+v", s, x, want)
	}
}

// checkDays reads days as a calendar's, a job's, and those to which a job's are moved.
func checkDays(t *testing.T, s string, want cal.Node) {
	t.Helper()
	checkSource(t, "calendar a="+s+";", Source{Keep: 7, Cals: []cal.Cal{{Name: "a", Days: want}}})
	j := plainJob("j")
	j.Days = want
	checkSource(t, "job j{days "+s+";}", Source{Keep: 7, Jobs: []Job{j}})
	j = plainJob("j")
	j.Shift, j.Work = true, want
	checkSource(t, "job j{shift skip "+s+";}", Source{Keep: 7, Jobs: []Job{j}})
}

// checkPart reads one part of a job, or several.
func checkPart(t *testing.T, s string, say func(*Job)) {
	t.Helper()
	j := plainJob("j")
	say(&j)
	checkSource(t, "job j { "+s+" }", Source{Keep: 7, Jobs: []Job{j}})
}

func checkIn(t *testing.T, s string, want Expr) {
	t.Helper()
	checkPart(t, "in "+s+";", func(j *Job) { j.In = want })
}

func TestWhatIsNotSaid(t *testing.T) { // P8.1
	for _, s := range []string{"", " \n", "# nothing"} {
		checkSource(t, s, Source{Keep: 7})
	}
	checkSource(t, "job a {}", Source{Keep: 7, Jobs: []Job{{Name: "a", To: 1439, Runs: 1}}})
}

func TestItems(t *testing.T) { // P8.1
	checkSource(t, "begin 04:00;", Source{Begin: 240, Keep: 7})
	checkSource(t, "keep 0;", Source{})
	checkSource(t, "keep 999999999;", Source{Keep: 999999999})
	checkSource(t, "BEGIN 23:59; Keep 007;", Source{Begin: 1439, Keep: 7})
	checkSource(t, "keep 3; begin 00:00;", Source{Keep: 3})
	checkSource(t, "resource cpu 4; lock db; resource z 0;", Source{Keep: 7, Res: []Res{{Name: "cpu", Units: 4}, {Name: "db", Lock: true}, {Name: "z"}}})
	checkSource(t, "job b{} calendar c = a; job a{} begin 00:01; calendar a = c;", Source{Begin: 1, Keep: 7, Cals: []cal.Cal{{Name: "c", Days: ref("a")}, {Name: "a", Days: ref("c")}}, Jobs: []Job{plainJob("b"), plainJob("a")}})
	checkSource(t, "lock a; resource a 999999999; job a{} job a{} calendar a=a; calendar a=a;", Source{Keep: 7, Cals: []cal.Cal{{Name: "a", Days: ref("a")}, {Name: "a", Days: ref("a")}}, Res: []Res{{Name: "a", Lock: true}, {Name: "a", Units: 999999999}}, Jobs: []Job{plainJob("a"), plainJob("a")}})
}

func TestDays(t *testing.T) { // P8.1
	checkDays(t, "week(mon)", weekly(1))
	checkDays(t, "week(mon, tue, wed, thu, fri, sat, sun)", weekly(127))
	checkDays(t, "WEEK ( Sun , fri,sun,sun )", weekly(80))
	checkDays(t, "dates()", dates())
	checkDays(t, "dates(20240329)", dates(day(t, "20240329")))
	checkDays(t, "dates(99991231, 00010101, 20240229, 00010101)", dates(api.MaxDay, 1, day(t, "20240229"), 1))
	checkDays(t, "month(1)", month(1))
	checkDays(t, "month(31, -1, - 31, 0, -0, 999999999, -999999999, 05)", month(31, -1, -31, 0, 0, 999999999, -999999999, 5))
	checkDays(t, "nth(thu, -1)", nth(3, -1))
	checkDays(t, "nth(sun, 99)", nth(6, 99))
	checkDays(t, "work(-1, wk)", work(-1, "wk"))
	checkDays(t, "work(0, not)", work(0, "not"))
	checkDays(t, "fiscal(445, 1)", fiscal(445, 1))
	checkDays(t, "fiscal(0, 13)", fiscal(0, 13))
	checkDays(t, "hol", ref("hol"))
	checkDays(t, "week(mon, fri) and not hol", andDays(weekly(17), notDays(ref("hol"))))
}

func TestDaysOfParts(t *testing.T) { // P8.1
	a, b, c, d := ref("a"), ref("b"), ref("c"), ref("d")
	checkDays(t, "(a)", a)
	checkDays(t, "((a))", a)
	checkDays(t, "not a", notDays(a))
	checkDays(t, "not not a", notDays(notDays(a)))
	checkDays(t, "not(a)", notDays(a))
	checkDays(t, "a and b", andDays(a, b))
	checkDays(t, "a and b and c", andDays(a, b, c))
	checkDays(t, "a or b or c", orDays(a, b, c))
	checkDays(t, "a or b and c or d", orDays(a, andDays(b, c), d))
	checkDays(t, "a and b or c and d", orDays(andDays(a, b), andDays(c, d)))
	checkDays(t, "a and (b or c) and d", andDays(a, orDays(b, c), d))
	checkDays(t, "(a and b) and c", andDays(andDays(a, b), c))
	checkDays(t, "a or (b or c)", orDays(a, orDays(b, c)))
	checkDays(t, "not a and b", andDays(notDays(a), b))
	checkDays(t, "not (a and b)", notDays(andDays(a, b)))
	checkDays(t, "not a or not b and not c", orDays(notDays(a), andDays(notDays(b), notDays(c))))
	checkDays(t, "(a or b)", orDays(a, b))
	checkDays(t, "a and a", andDays(a, a))
}

func TestConditions(t *testing.T) { // P8.1
	a, b, c, d := has("a", Odat), has("b", Odat), has("c", Odat), has("d", Odat)
	checkIn(t, "a", a)
	checkIn(t, "a.odat", a)
	checkIn(t, "a.prev", has("a", Prev))
	checkIn(t, "A . ANY", has("a", Any))
	checkIn(t, "((a))", a)
	checkIn(t, "not a", not(a))
	checkIn(t, "not not a.any", not(not(has("a", Any))))
	checkIn(t, "a and b and c", and(a, b, c))
	checkIn(t, "a or b and c or d", or(a, and(b, c), d))
	checkIn(t, "a and b or c and d", or(and(a, b), and(c, d)))
	checkIn(t, "(a or b) and (c or d)", and(or(a, b), or(c, d)))
	checkIn(t, "(a or b) or c", or(or(a, b), c))
	checkIn(t, "a and (b and c)", and(a, and(b, c)))
	checkIn(t, "not (a or b.prev) and c", and(not(or(a, has("b", Prev))), c))
	checkIn(t, "(x or not y.prev)", or(has("x", Odat), not(has("y", Prev))))
}

func TestParts(t *testing.T) { // P8.1
	checkPart(t, "window 22:00 02:00;", func(j *Job) { j.From, j.To = 1320, 120 })
	checkPart(t, "window 00:00 00:00;", func(j *Job) { j.From, j.To = 0, 0 })
	checkPart(t, "shift next a;", func(j *Job) { j.Shift, j.Dir, j.Work = true, 1, ref("a") })
	checkPart(t, "shift prev a or b;", func(j *Job) { j.Shift, j.Dir, j.Work = true, -1, orDays(ref("a"), ref("b")) })
	checkPart(t, "shift skip week(mon);", func(j *Job) { j.Shift, j.Dir, j.Work = true, 0, weekly(1) })
	checkPart(t, "out +a;", func(j *Job) { j.Out = []Outcome{{Add: true, Name: "a"}} })
	checkPart(t, "out +a, -b.prev;", func(j *Job) { j.Out = []Outcome{{Add: true, Name: "a"}, {Name: "b", When: Prev}} })
	checkPart(t, "out - a . any; prio 1; out+b.odat,+b;", func(j *Job) {
		j.Out = []Outcome{{Name: "a", When: Any}, {Add: true, Name: "b"}, {Add: true, Name: "b"}}
		j.Prio = 1
	})
	checkPart(t, "use db shared; need cpu 2; use db exclusive; need cpu 0;", func(j *Job) {
		j.Needs = []Need{{Name: "db", Mode: 1}, {Name: "cpu", N: 2}, {Name: "db", Mode: 2}, {Name: "cpu"}}
	})
	checkPart(t, "prio 1; wait 2; every 3; runs 4; retry 5;", func(j *Job) { j.Prio, j.Wait, j.Every, j.Runs, j.Retry = 1, 2, 3, 4, 5 })
	checkPart(t, "retry 999999999; runs 0; every 0; wait 000; prio 100;", func(j *Job) { j.Prio, j.Runs, j.Retry = 100, 0, 999999999 })
	checkPart(t, "in x; days a; window 00:00 23:59;", func(j *Job) { j.In, j.Days = has("x", Odat), ref("a") })
}

func TestTheExample(t *testing.T) { // P8.1
	j := plainJob("a")
	j.Days = andDays(weekly(17), notDays(ref("hol")))
	j.Out = []Outcome{{Add: true, Name: "a"}, {Name: "b", When: Prev}}
	checkSource(t, "job a { days week(mon, fri) and not hol; out +a, -b.prev; }", Source{Keep: 7, Jobs: []Job{j}})
}

// allWords are those that the grammar names.
const allWords = "begin keep calendar resource lock job or and not week dates month nth work fiscal mon tue wed thu fri sat sun days shift next prev skip window in out need use shared exclusive prio wait every runs retry odat any"

func TestNamesMayBeAnyWord(t *testing.T) { // P8.1
	wordsOfDays := " not and or week dates month nth work fiscal "
	for _, w := range strings.Fields(allWords) {
		x := Source{Keep: 7, Cals: []cal.Cal{{Name: w, Days: work(1, w)}}, Res: []Res{{Name: w, Units: 1}, {Name: w, Lock: true}}, Jobs: []Job{plainJob(w)}}
		x.Jobs[0].Out = []Outcome{{Add: true, Name: w}, {Name: w, When: Any}}
		x.Jobs[0].Needs = []Need{{Name: w, N: 1}, {Name: w, Mode: 1}}
		checkSource(t, strings.ReplaceAll("calendar @=work(1,@);resource @ 1;lock @;job @{out+@,-@.any;need @ 1;use @ shared;}", "@", w), x)
		if !strings.Contains(wordsOfDays, " "+w+" ") {
			checkDays(t, w+" or not "+w, orDays(ref(w), notDays(ref(w))))
		}
		if !strings.Contains(" not and or ", " "+w+" ") {
			checkIn(t, w+"."+"any and "+w, and(has(w, Any), has(w, Odat)))
		}
	}
}

func TestWordsThatAreNoNames(t *testing.T) { // P8.1
	for _, w := range []string{"and", "or"} {
		checkFault(t, "calendar a = ^"+w+";", api.ErrSyntax)
		checkFault(t, "job a { in ^"+w+"; }", api.ErrSyntax)
		checkFault(t, "job a { in x and ^"+w+" y; }", api.ErrSyntax)
		checkFault(t, "job a { days x or ^"+w+" y; }", api.ErrSyntax)
	}
	for _, w := range []string{"week", "dates", "month", "nth", "work", "fiscal"} {
		checkFault(t, "calendar a = "+w+"^;", api.ErrSyntax)
		checkFault(t, "job a { days b and "+w+" ^or c; }", api.ErrSyntax)
		checkFault(t, "job a { shift next "+w+"^;}", api.ErrSyntax)
	}
	checkFault(t, "calendar a = not^;", api.ErrSyntax)
	checkFault(t, "job a { in not^; }", api.ErrSyntax)
}

// scribble writes into all that a source has.
func scribble(x *Source) {
	for i := range x.Cals {
		scribbleNode(&x.Cals[i].Days)
		x.Cals[i].Name = "?"
	}
	for i := range x.Res {
		x.Res[i] = Res{Name: "?"}
	}
	for i := range x.Jobs {
		j := &x.Jobs[i]
		scribbleNode(&j.Days)
		scribbleNode(&j.Work)
		scribbleExpr(&j.In)
		for k := range j.Out {
			j.Out[k].Name = "?"
		}
		_ = append(j.Out, Outcome{Name: "?"})
		for k := range j.Needs {
			j.Needs[k].Name = "?"
		}
		_ = append(j.Needs, Need{Name: "?"})
		j.Name = "?"
	}
}

func scribbleNode(n *cal.Node) {
	for i := range n.N {
		n.N[i] = -7
	}
	_ = append(n.N, -8)
	for i := range n.Kids {
		scribbleNode(&n.Kids[i])
	}
	_ = append(n.Kids, ref("?"))
	n.Op, n.Name = 0, "?"
}

func scribbleExpr(e *Expr) {
	for i := range e.Kids {
		scribbleExpr(&e.Kids[i])
	}
	_ = append(e.Kids, has("?", Any))
	e.Op, e.Name = 0, "?"
}

func TestAnswersAreNewMemory(t *testing.T) { // rules 4 and 5
	for seed := range int64(200) {
		m := newMaker(seed)
		x := m.source()
		s := m.text(x)
		first, second := parsed(t, s), parsed(t, s)
		Print(first)
		if !reflect.DeepEqual(first, x) {
			t.Fatal("Print changes", s)
		}
		scribble(&first)
		if !reflect.DeepEqual(second, x) || !reflect.DeepEqual(parsed(t, s), x) {
			t.Fatal("shared", s)
		}
	}
}

// TestListsOfOneAnswer appends to a list of a job, and looks at the other ones.
func TestListsOfOneAnswer(t *testing.T) { // rule 4
	s := "job a { out +x, +y, +z; need r 1; need s 1; need t 1; } job b { out +u, +v, +w; need o 1; need p 1; need q 1; days a or b or c; in a or b or c; }"
	x, want := parsed(t, s), parsed(t, s)
	for i := range x.Jobs {
		_ = append(x.Jobs[i].Out, Outcome{Name: "?"}, Outcome{Name: "?"})
		_ = append(x.Jobs[i].Needs, Need{Name: "?"}, Need{Name: "?"})
		_ = append(x.Jobs[i].Days.Kids, ref("?"), ref("?"))
		_ = append(x.Jobs[i].In.Kids, has("?", Any), has("?", Any))
	}
	_ = append(x.Jobs, plainJob("?"))
	if !reflect.DeepEqual(x, want) {
		t.Error("shared", x)
	}
}
