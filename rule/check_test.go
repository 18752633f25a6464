package rule

import (
	"reflect"
	"strconv"
	"strings"
	"testing"

	"dayshift/api"
	"dayshift/cal"
	"dayshift/jdl"
)

func parsed(t *testing.T, s string) jdl.Source {
	t.Helper()
	x, at, e := jdl.Parse(s)
	if e != api.OK {
		t.Fatalf("Parse(%q): %d %d", s, at, e)
	}
	return x
}

// check holds what Check tells of a source, and that it leaves it as it is.
func check(t *testing.T, s string, what, place int, want api.Errno) {
	t.Helper()
	x := parsed(t, s)
	if a, b, e := Check(x); a != what || b != place || e != want {
		t.Errorf("Check(%q) = %d, %d, %d, not %d, %d, %d", s, a, b, e, what, place, want)
	}
	if !reflect.DeepEqual(x, parsed(t, s)) {
		t.Errorf("Check(%q) wrote into it", s)
	}
}

func canBe(t *testing.T, s string) {
	t.Helper()
	check(t, s, Source, 0, api.OK)
}

// nested has days, or conditions, with so many words ahead of a last one.
func nested(word string, count int, last string) string {
	return strings.Repeat(word+" ", count) + last
}

// chain has calendars, each one of the next, the last one of some days.
func chain(count int, last string) string {
	var b strings.Builder
	for i := range count - 1 {
		b.WriteString("calendar c" + strconv.Itoa(i) + " = c" + strconv.Itoa(i+1) + "; ")
	}
	return b.String() + "calendar c" + strconv.Itoa(count-1) + " = " + last + "; "
}

func TestWhatCanBe(t *testing.T) { // P9.1
	for _, s := range []string{
		"", "keep 0;", "keep 99;", "begin 23:59;",
		"resource r 0;", "resource r 1000;", "lock l;",
		"job a { }", "job a { days week(mon); shift next week(tue); }",
		"job a { prio 99; wait 99; every 10080; runs 99; retry 99; }",
		"job a { prio 0; wait 0; every 0; runs 1; retry 0; }",
		"resource r 1; job a { need r 1; }", "resource r 0; job a { need r 1000; }",
		"lock l; job a { use l shared; } job b { use l exclusive; }",
		"resource r 1; lock l; job a { need r 1; use l shared; } job b { use l shared; need r 1; }",
		"job a { need r 1; } resource r 1;",
		"job a { days w; } calendar w = week(mon);",
		"job a { out +x, +x.prev, -x.any, +y, -z.prev; }",
		"job a { out +x; } job b { out +x; }",
		"job a { out -x.any; out +x.odat; }",
		"calendar a = week(mon); resource a 1; job a { days a; need a 1; in a; out +a; }",
		"calendar a = b; calendar b = c; calendar c = week(mon);",
		"calendar a = work(1, b); calendar b = week(mon);",
	} {
		canBe(t, s)
	}
}

func TestTheSource(t *testing.T) { // P9.1
	check(t, "keep 100;", Source, 0, api.ErrRange)
	check(t, "keep 999999999;", Source, 0, api.ErrRange)
	check(t, "calendar a = a; resource r 1001; job a { runs 0; } keep 100;", Source, 0, api.ErrRange)
}

func TestCalendars(t *testing.T) { // P9.1
	check(t, "calendar a = week(mon); calendar a = week(mon);", Cal, 1, api.ErrTwice)
	check(t, "calendar a = week(mon); calendar b = week(mon); calendar A = week(tue);", Cal, 2, api.ErrTwice)
	check(t, "calendar a = b;", Cal, 0, api.ErrName)
	check(t, "calendar a = week(mon); calendar b = a or not c;", Cal, 1, api.ErrName)
	check(t, "calendar a = work(1, b);", Cal, 0, api.ErrName)
	check(t, "resource b 1; job b { } calendar a = b;", Cal, 0, api.ErrName)
	for _, days := range []string{"month(0)", "month(32)", "month(-32)", "nth(mon, 0)", "nth(mon, 6)", "nth(sun, -6)", "work(0, a)", "work(32, a)", "fiscal(444, 1)", "fiscal(445, 0)", "fiscal(445, 13)", "week(mon) and month(0)"} {
		check(t, "calendar a = "+days+";", Cal, 0, api.ErrArg)
	}
}

func TestCalendarsThatGoToThemselves(t *testing.T) { // P9.1
	check(t, "calendar a = a;", Cal, 0, api.ErrDeep)
	check(t, "calendar a = b; calendar b = a;", Cal, 0, api.ErrDeep)
	check(t, "calendar a = week(mon); calendar b = a; calendar c = not c;", Cal, 2, api.ErrDeep)
	check(t, "calendar a = work(1, a);", Cal, 0, api.ErrDeep)
	check(t, "calendar a = work(1, b); calendar b = a;", Cal, 0, api.ErrDeep)
	check(t, "calendar w = week(mon); calendar a = work(1, w); calendar b = work(1, a);", Cal, 2, api.ErrDeep)
	check(t, "calendar a = b or c; calendar b = a;", Cal, 0, api.ErrDeep)
	check(t, "calendar a = c or b; calendar b = a;", Cal, 0, api.ErrName)
}

func TestHowDeepCalendarsGo(t *testing.T) { // P9.1
	canBe(t, chain(24, "week(mon)"))
	canBe(t, chain(24, "week(mon)")+"job a { days not c0; shift prev c0; }")
	check(t, chain(24, "c23"), Cal, 0, api.ErrDeep)
	canBe(t, "calendar a = "+nested("not", 15, "week(mon)")+";")
	check(t, "calendar a = "+nested("not", 16, "week(mon)")+";", Cal, 0, api.ErrArg)
	check(t, "calendar w = week(mon); job a { days "+nested("not", 16, "w")+"; }", Job, 0, api.ErrArg)
	// Of a 73 nodes are met; so there are 1 + 3 * 74 + 3 * 9 + 5 and the last one.
	few, eight := "("+nested("week(mon) or", 3, "week(tue)")+")", "("+nested("week(mon) or", 7, "week(tue)")+")"
	a := "calendar a = " + nested(eight+" or", 7, eight) + "; "
	many := nested("a or", 3, nested(eight+" or", 3, few)) + " or "
	canBe(t, a+"calendar b = "+many+"week(wed);")
	check(t, a+"calendar b = "+many+"not week(wed);", Cal, 1, api.ErrDeep)
	canBe(t, a+"job b { days "+many+"week(wed); }")
	check(t, a+"job b { days "+many+"a; }", Job, 0, api.ErrDeep)
}

// TestOneCalendarThatCanNotBe: cal.In refuses all days beside one of these, so the first calendar is told.
func TestOneCalendarThatCanNotBe(t *testing.T) { // P9.1
	check(t, "calendar a = week(mon); calendar b = month(0);", Cal, 0, api.ErrArg)
	check(t, "calendar a = week(mon); calendar a = week(tue); calendar b = month(0);", Cal, 0, api.ErrArg)
	check(t, "calendar a = none; calendar b = month(0);", Cal, 0, api.ErrArg)
}

func TestTheOrderOfCalendars(t *testing.T) { // P9.1, P6
	check(t, "calendar a = week(mon); calendar a = none;", Cal, 1, api.ErrTwice)
	check(t, "calendar a = none; calendar a = week(mon);", Cal, 0, api.ErrName)
	check(t, "calendar a = week(mon); calendar b = b; calendar a = a;", Cal, 1, api.ErrDeep)
	check(t, "resource r 1001; job a { runs 0; } calendar a = a;", Cal, 0, api.ErrDeep)
}

func TestResources(t *testing.T) { // P9.1, P6
	check(t, "resource r 1001;", Res, 0, api.ErrRange)
	check(t, "lock l; resource r 999999999;", Res, 1, api.ErrRange)
	check(t, "resource r 1; resource r 1;", Res, 1, api.ErrTwice)
	check(t, "lock l; lock l;", Res, 1, api.ErrTwice)
	check(t, "lock r; resource a 1; resource r 1;", Res, 2, api.ErrTwice)
	check(t, "resource r 1; resource r 1001;", Res, 1, api.ErrTwice)
	check(t, "resource r 1001; resource r 1;", Res, 0, api.ErrRange)
	check(t, "job a { runs 0; } resource r 1001;", Res, 0, api.ErrRange)
}

func TestJobs(t *testing.T) { // P9.1
	check(t, "job a { } job a { }", Job, 1, api.ErrTwice)
	check(t, "job a { } job b { } job c { } job B { }", Job, 3, api.ErrTwice)
	check(t, "job a { days none; }", Job, 0, api.ErrName)
	check(t, "job a { days month(0); }", Job, 0, api.ErrArg)
	check(t, "job a { } job b { shift next none; }", Job, 1, api.ErrName)
	check(t, "job a { shift skip nth(mon, 6); }", Job, 0, api.ErrArg)
	check(t, "calendar w = week(mon); job a { days w; shift prev work(0, w); }", Job, 0, api.ErrArg)
	check(t, "calendar w = week(mon); calendar v = work(1, w); job a { days work(1, v); }", Job, 0, api.ErrDeep)
	for _, part := range []string{"prio 100", "wait 100", "every 10081", "runs 0", "runs 100", "retry 100", "prio 999999999", "runs 999999999"} {
		check(t, "job a { } job b { "+part+"; }", Job, 1, api.ErrRange)
	}
}

func TestNeeds(t *testing.T) { // P9.1
	head := "resource r 1; lock l; job a { } job b { "
	for part, want := range map[string]api.Errno{
		"need cpu 1":                 api.ErrName,
		"use cpu shared":             api.ErrName,
		"need b 1":                   api.ErrName,
		"need l 1":                   api.ErrArg,
		"use r shared":               api.ErrArg,
		"use r exclusive":            api.ErrArg,
		"need r 0":                   api.ErrRange,
		"need r 1001":                api.ErrRange,
		"need r 1; need r 1":         api.ErrTwice,
		"need r 1; use l shared":     api.OK,
		"use l shared; use l shared": api.ErrTwice,
		"use l shared; need r 1; use l exclusive": api.ErrTwice,
		"need cpu 0":                                api.ErrName,
		"need l 0":                                  api.ErrArg,
		"use l shared; need l 1":                    api.ErrArg,
		"need r 1; use r shared":                    api.ErrArg,
		"need r 1; need r 0":                        api.ErrTwice,
		"need r 0; need r 1":                        api.ErrRange,
		"need r 0; need cpu 1":                      api.ErrRange,
		"need cpu 1; need r 0":                      api.ErrName,
		"need r 1; need r 1; need cpu 1":            api.ErrTwice,
		"use l exclusive; need r 1000; out +l, +r":  api.OK,
		"use l exclusive; need r 1001; out +l, +l":  api.ErrRange,
		"use l exclusive; need cpu 10; out +l.any":  api.ErrName,
		"out +l.any; use l exclusive; need r 10000": api.ErrRange,
	} {
		place := 1
		if want == api.OK {
			place = 0
		}
		check(t, head+part+"; }", Job*place, place, want)
	}
}

func TestOuts(t *testing.T) { // P9.1
	for part, want := range map[string]api.Errno{
		"+x.any":                  api.ErrArg,
		"-x.any":                  api.OK,
		"+x, -x":                  api.ErrTwice,
		"+x, +x.odat":             api.ErrTwice,
		"-x.any, -x.any":          api.ErrTwice,
		"-x.any, +x.any":          api.ErrArg,
		"+x.prev, +y, -x.prev":    api.ErrTwice,
		"+x, -x.prev, -x.any":     api.OK,
		"+x, +x, +x.any":          api.ErrTwice,
		"+x.any, +x, +x":          api.ErrArg,
		"+x; out +y; out -x.odat": api.ErrTwice,
	} {
		place := 1
		if want == api.OK {
			place = 0
		}
		check(t, "job a { out +x, +y; } job b { out "+part+"; }", Job*place, place, want)
	}
}

// TestTheOrderWithinAJob has jobs with all faults from one on: the first one is told.
func TestTheOrderWithinAJob(t *testing.T) { // P9.1, P6
	faults := []struct {
		part string
		want api.Errno
	}{
		{"days none;", api.ErrName},
		{"shift next work(0, w);", api.ErrArg},
		{"runs 0;", api.ErrRange},
		{"need cpu 0;", api.ErrName},
		{"need l 0;", api.ErrArg},
		{"need r 1; need r 0;", api.ErrTwice},
		{"need q 0;", api.ErrRange},
		{"out +x.any, +y.any;", api.ErrArg},
		{"out +z, -z;", api.ErrTwice},
	}
	head := "calendar w = week(mon); resource r 1; resource q 1; lock l; job ok { } job "
	for i, f := range faults {
		parts := ""
		for _, later := range faults[i:] {
			parts += later.part + " "
		}
		check(t, head+"a { "+parts+"}", Job, 1, f.want)
		check(t, head+"ok { "+parts+"}", Job, 1, api.ErrTwice)
		check(t, head+"a { "+f.part+" } job ok { } job b { runs 0; }", Job, 1, f.want)
	}
}

// TestOfAnything asks what no source says: it ends, and tells a fault of it.
func TestOfAnything(t *testing.T) { // P6
	for _, x := range []jdl.Source{
		{Cals: make([]cal.Cal, 100)},
		{Jobs: make([]jdl.Job, 100)},
		{Jobs: []jdl.Job{{Shift: true}}},
		{Jobs: []jdl.Job{{Days: cal.Node{Op: -1}}}},
		{Jobs: []jdl.Job{{Runs: -1, Needs: make([]jdl.Need, 100), Out: make([]jdl.Outcome, 100)}}},
		{Jobs: []jdl.Job{{Runs: 1, Needs: []jdl.Need{{Mode: -5}}}}},
	} {
		if _, _, e := Check(x); e == api.OK {
			t.Error("Check", x, e)
		}
	}
	if what, place, e := Check(jdl.Source{}); what != Source || place != 0 || e != api.OK {
		t.Error("Check of nothing", what, place, e)
	}
}
