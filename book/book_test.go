package book

import (
	"math"
	"math/rand"
	"reflect"
	"strconv"
	"strings"
	"testing"

	"dayshift/api"
	"dayshift/cal"
	"dayshift/jdl"
	"dayshift/rule"
)

func made(t *testing.T, source string) *Book {
	t.Helper()
	b, f, e := New(source)
	if b == nil || f != (Fault{}) || e != api.OK {
		t.Fatalf("New(%q): %v %v %d", source, b, f, e)
	}
	return b
}

// refused holds that there is no book, and where the source can not be.
func refused(t *testing.T, source string, want Fault, errno api.Errno) {
	t.Helper()
	if b, f, e := New(source); b != nil || f != want || e != errno {
		t.Errorf("New(%.200q): %v %v %d, not %v %d", source, b, f, e, want, errno)
	}
}

func TestSourcesThatCanNotBeRead(t *testing.T) { // P10.1, P6
	for source, errno := range map[string]api.Errno{
		"job a {":                           api.ErrSyntax,
		"job a { } 9a":                      api.ErrSyntax,
		"*":                                 api.ErrSyntax,
		"begin 04:00; begin 04:00;":         api.ErrTwice,
		"job a { in ((((((((((((((((( x; }": api.ErrDeep,
		"job a { prio 1; prio 2; }":         api.ErrTwice,
		strings.Repeat("lock l; ", 13):      api.ErrFull,
		strings.Repeat("job a { } ", 49):    api.ErrFull,
		strings.Repeat(" ", 8193):           api.ErrSize,
		"job a { need none 1; } job b { x":  api.ErrSyntax, // ahead of what the rules say
		"\x00":                              api.ErrSyntax,
		"calendar a = dates(20230229);":     api.ErrSyntax,
		"job a { out +a, +b, +c, +d, +e, +f, +g, +h, +i; }": api.ErrFull,
	} {
		_, at, e := jdl.Parse(source)
		if e != errno {
			t.Fatalf("Parse(%.200q): %d, not %d", source, e, errno)
		}
		refused(t, source, Fault{At: at}, errno)
	}
	refused(t, "job a {", Fault{At: 7}, api.ErrSyntax)
	refused(t, "  *", Fault{At: 2}, api.ErrSyntax)
}

func TestSourcesThatRulesRefuse(t *testing.T) { // P10.1, P6
	refused(t, "keep 100;", Fault{What: rule.Source}, api.ErrRange)
	refused(t, "calendar a = b; calendar b = a;", Fault{What: rule.Cal}, api.ErrDeep)
	refused(t, "calendar w = week(mon); calendar a = none;", Fault{What: rule.Cal, Place: 1}, api.ErrName)
	refused(t, "lock l; resource l 1;", Fault{What: rule.Res, Place: 1}, api.ErrTwice)
	refused(t, "resource r 1001;", Fault{What: rule.Res}, api.ErrRange)
	refused(t, "job a { need cpu 1; }", Fault{What: rule.Job}, api.ErrName)
	refused(t, "job a { } job b { need x 1; }", Fault{What: rule.Job, Place: 1}, api.ErrName)
	refused(t, "job a { } job b { days month(32); } job c { }", Fault{What: rule.Job, Place: 1}, api.ErrArg)
	refused(t, "job a { } job b { } job a { }", Fault{What: rule.Job, Place: 2}, api.ErrTwice)
	refused(t, "job a { runs 0; }", Fault{What: rule.Job}, api.ErrRange)
}

// longSource is printed as so many bytes, if there can be such a text.
func longSource(t *testing.T, size int) string {
	t.Helper()
	var b strings.Builder
	for i := range 39 {
		name := "job" + strconv.Itoa(i)
		b.WriteString("job " + name + " { in " + strings.Repeat("aaaaaaaaaaaaaaaaaaaa or ", 4) + "a; }\n")
	}
	missing := size - len(printed(t, b.String()))
	if missing < 0 || missing > 39*19 {
		t.Fatal("no such source", missing)
	}
	return strings.ReplaceAll(longer(b.String(), missing), "\n", " ")
}

func printed(t *testing.T, source string) string {
	t.Helper()
	x, _, e := jdl.Parse(source)
	if e != api.OK {
		t.Fatal("Parse", source, e)
	}
	return jdl.Print(x)
}

// longer has so many bytes more, in the last names of its lines.
func longer(s string, missing int) string {
	lines := strings.Split(s, "\n")
	for i := range lines {
		more := min(missing, 19)
		lines[i] = strings.Replace(lines[i], "a; }", strings.Repeat("a", more)+"a; }", 1)
		missing -= more
	}
	return strings.Join(lines, "\n")
}

func TestTooLongAText(t *testing.T) { // P10.1
	for size := 8180; size <= 8200; size++ {
		source := longSource(t, size)
		if len(source) > api.MaxText || len(printed(t, source)) != size {
			t.Fatal("not the source", len(source), len(printed(t, source)), size)
		}
		if size > api.MaxText {
			refused(t, source, Fault{}, api.ErrSize)
			refused(t, "keep 100; "+source, Fault{}, api.ErrRange)
		} else if b := made(t, source); len(b.Text()) != size || b.Len() != 39 {
			t.Error("not the book", size, b.Len())
		}
	}
}

func TestTooDeepAText(t *testing.T) { // P10.1
	deep := func(nots int, in string) string { return strings.Repeat("not ", nots) + in }
	made(t, "job a { in "+deep(16, "x")+"; }")
	made(t, "job a { in "+deep(15, "(x and y)")+"; }")
	made(t, "job a { in "+deep(14, "(x and y or z)")+"; }")
	refused(t, "job a { in "+deep(15, "(x and y or z)")+"; }", Fault{}, api.ErrSize)
	refused(t, "job a { in "+strings.Repeat("(x or y and ", 16)+"z"+strings.Repeat(")", 16)+"; }", Fault{}, api.ErrSize)
	made(t, "job a { in "+strings.Repeat("(", 16)+"x"+strings.Repeat(")", 16)+"; }")
	refused(t, "job a { in "+deep(15, "(x and y or z)")+"; runs 0; }", Fault{What: rule.Job}, api.ErrRange)
}

func TestWhatABookSays(t *testing.T) { // P10.1
	source := `begin 04:30; keep 3;
calendar w = week(mon, tue);
resource cpu 3; lock disk; resource tape 0;
job First { days w and not dates(20240101); shift prev w; window 22:00 02:00; in x and (y.prev or not z.any); out +a, -b.any; need cpu 2; use disk shared; prio 1; wait 2; every 3; runs 4; retry 5; }
job second { }
job a_3 { days month(-1); }`
	b := made(t, source)
	x, _, _ := jdl.Parse(source)
	if b.Len() != 3 || b.Begin() != 270 || b.Keep() != 3 {
		t.Error("Len, Begin, Keep", b.Len(), b.Begin(), b.Keep())
	}
	if !reflect.DeepEqual(b.Res(), []jdl.Res{{Name: "cpu", Units: 3}, {Name: "disk", Lock: true}, {Name: "tape"}}) {
		t.Error("Res", b.Res())
	}
	for i, want := range x.Jobs {
		if j, e := b.Job(i); e != api.OK || !reflect.DeepEqual(j, want) {
			t.Error("Job", i, j, e)
		}
		if b.Find(want.Name) != i {
			t.Error("Find", want.Name, b.Find(want.Name))
		}
	}
	if b.Text() != jdl.Print(x) || !strings.HasPrefix(b.Text(), "begin 04:30;\nkeep 3;\ncalendar w = week(mon, tue);\n") {
		t.Error("Text", b.Text())
	}
}

func TestWhatASourceDoesNotSay(t *testing.T) { // P10.1
	b := made(t, "")
	if b.Len() != 0 || b.Begin() != 0 || b.Keep() != 7 || len(b.Res()) != 0 || b.Text() != "begin 00:00;\nkeep 7;\n" {
		t.Error("of nothing", b.Len(), b.Begin(), b.Keep(), b.Res(), b.Text())
	}
	if l, e := b.All(1); len(l) != 0 || e != api.OK {
		t.Error("All", l, e)
	}
	if j, e := b.Job(0); !reflect.DeepEqual(j, jdl.Job{}) || e != api.ErrNone {
		t.Error("Job", j, e)
	}
}

var noPlaces = []int{-1, 3, 4, math.MaxInt, math.MinInt, -3, 1 << 32}

func TestJobsThatAreNotThere(t *testing.T) { // P10.1, P10.2, P6
	b := made(t, "calendar w = week(mon); job a { days w; } job b { } job c { days w; }")
	for _, i := range noPlaces {
		if j, e := b.Job(i); !reflect.DeepEqual(j, jdl.Job{}) || e != api.ErrNone {
			t.Error("Job", i, j, e)
		}
		for _, day := range []int64{1, 0, -1, api.MaxDay, api.MaxDay + 1, math.MaxInt64, math.MinInt64} {
			if is, e := b.Due(i, day); is || e != api.ErrNone {
				t.Error("Due", i, day, is, e)
			}
			if next, e := b.Next(i, day); next != 0 || e != api.ErrNone {
				t.Error("Next", i, day, next, e)
			}
		}
	}
	for _, name := range []string{"", "d", "A", "B", "w", "a ", " a", "aa", "\x00", "none"} {
		if i := b.Find(name); i != -1 {
			t.Error("Find", name, i)
		}
	}
	if i := made(t, "job A { }").Find("a"); i != 0 {
		t.Error("Find in small letters", i)
	}
}

func TestNoBook(t *testing.T) { // of nil
	var b *Book
	if b.Len() != 0 || b.Find("a") != -1 || b.Find("") != -1 || len(b.Res()) != 0 || b.Begin() != 0 || b.Keep() != 0 || b.Text() != "" {
		t.Error("of nil", b.Len(), b.Find("a"), b.Res(), b.Begin(), b.Keep(), b.Text())
	}
	for _, i := range append(noPlaces, 0, 1) {
		if j, e := b.Job(i); !reflect.DeepEqual(j, jdl.Job{}) || e != api.ErrNil {
			t.Error("Job", j, e)
		}
		for _, day := range []int64{1, 0, -1, api.MaxDay + 1} {
			if is, e := b.Due(i, day); is || e != api.ErrNil {
				t.Error("Due", is, e)
			}
			if l, e := b.All(day); len(l) != 0 || e != api.ErrNil {
				t.Error("All", l, e)
			}
			if next, e := b.Next(i, day); next != 0 || e != api.ErrNil {
				t.Error("Next", next, e)
			}
		}
	}
}

// TestABookThatNobodyMade: it has no jobs, and nothing panics.
func TestABookThatNobodyMade(t *testing.T) { // P6
	b := new(Book)
	if l, e := b.All(1); b.Len() != 0 || b.Find("a") != -1 || len(b.Res()) != 0 || len(l) != 0 || e != api.OK {
		t.Error("of nobody", b.Len(), b.Find("a"), b.Res(), l, e)
	}
	if _, e := b.Next(0, 1); e != api.ErrNone {
		t.Error("Next", e)
	}
	_ = b.Text()
}

// spoil writes into all lists of a job, and behind them.
func spoil(j jdl.Job) {
	spoilNode(j.Days)
	spoilNode(j.Work)
	spoilExpr(j.In)
	for i := range j.Out {
		j.Out[i] = jdl.Outcome{Name: "other"}
	}
	for i := range j.Needs {
		j.Needs[i] = jdl.Need{Name: "other"}
	}
	_ = append(j.Out[:cap(j.Out)], jdl.Outcome{})
	_ = append(j.Needs[:0], jdl.Need{})
}

func spoilNode(n cal.Node) {
	for _, kid := range n.Kids {
		spoilNode(kid)
	}
	for i := range n.N {
		n.N[i] = -5
	}
	for i := range n.Kids {
		n.Kids[i] = cal.Node{Op: cal.Ref, Name: "other"}
	}
}

func spoilExpr(e jdl.Expr) {
	for _, kid := range e.Kids {
		spoilExpr(kid)
	}
	for i := range e.Kids {
		e.Kids[i] = jdl.Expr{Op: jdl.Has, Name: "other"}
	}
}

func TestAnswersAreTheirOwn(t *testing.T) { // rule 4
	source := "calendar w = week(mon); resource r 1; lock l; job a { days w and (not month(1, 2) or dates(20240101)); shift next week(mon) or not w; in x and (y or not z); out +a, +b; need r 1; use l shared; } job b { days w; }"
	b, other := made(t, source), made(t, source)
	for range 2 {
		j, _ := b.Job(0)
		spoil(j)
		res := b.Res()
		res[0] = jdl.Res{Name: "other"}
		_ = append(res[:1], jdl.Res{Name: "other"})
		l, _ := b.All(1)
		for i := range l {
			l[i] = 7
		}
		_ = append(l[:0], 9)
	}
	again, _ := b.Job(0)
	want, _ := other.Job(0)
	if !reflect.DeepEqual(again, want) || !reflect.DeepEqual(b.Res(), other.Res()) || b.Text() != other.Text() {
		t.Error("written into", again, b.Res(), b.Text())
	}
	for day := int64(1); day < 60; day++ {
		l, _ := b.All(day)
		same, _ := other.All(day)
		if !reflect.DeepEqual(l, same) {
			t.Error("All", day, l, same)
		}
	}
}

// TestAnyBytes cuts sources off, and writes other bytes into them: there is a book just if they can be read and be.
func TestAnyBytes(t *testing.T) { // P10.1, P6
	books := 0
	for seed := range int64(3000) {
		m := maker{rand.New(rand.NewSource(seed))}
		source := []byte(m.source())
		for range m.Intn(3) {
			source[m.Intn(len(source))] = " abc;(){}019,.+-#\x00\xff"[m.Intn(19)]
		}
		if m.Intn(2) == 0 {
			source = source[:m.Intn(len(source))]
		}
		x, at, e := jdl.Parse(string(source))
		if e != api.OK {
			refused(t, string(source), Fault{At: at}, e)
			continue
		}
		if what, place, e := rule.Check(x); e != api.OK {
			refused(t, string(source), Fault{What: what, Place: place}, e)
			continue
		}
		if b := made(t, string(source)); b.Text() != jdl.Print(x) {
			t.Error("Text", b.Text())
		}
		books++
	}
	if books < 300 || books > 2700 {
		t.Error("too few", books)
	}
}
