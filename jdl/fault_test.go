package jdl

import (
	"reflect"
	"strings"
	"testing"

	"dayshift/api"
)

// checkFault reads a source without its "^", which stands at the place that is told.
func checkFault(t *testing.T, marked string, want api.Errno) {
	t.Helper()
	at := strings.Index(marked, "^")
	if at < 0 {
		t.Fatalf("no place in %q", marked)
	}
	s := strings.Replace(marked, "^", "", 1)
	x, got, e := Parse(s)
	if !reflect.DeepEqual(x, Source{}) || got != at || e != want {
		t.Errorf("Parse(%q) = %d %d, not %d %d", s, got, e, at, want)
	}
}

func checkRight(t *testing.T, s string) {
	t.Helper()
	if _, at, e := Parse(s); at != 0 || e != api.OK {
		t.Errorf("Parse(%q) = %d %d", s, at, e)
	}
}

// checkEnd reads a source to which something is missing: at its end, and at a word that stands where it should go on.
func checkEnd(t *testing.T, s string) {
	t.Helper()
	for _, more := range []string{"^", " \n^", "# it\n^", " ^=", " ^{", " ^12:30"} {
		checkFault(t, s+more, api.ErrSyntax)
	}
}

func TestItemsThatCanNotBe(t *testing.T) { // P8.1
	for _, s := range []string{
		"^x", "^7", "^12:30", "^;", "^}", "^days w;", "^prio 1;", "begin 04:00; ^;", "begin 04:00; # it\n^x",
		"begin ^1;", "begin ^x;", "begin ^;", "begin 04:00 ^04:00;", "keep ^12:30;", "keep ^-1;", "keep ^;", "keep 1 ^2;",
		"calendar ^7 = a;", "calendar a ^a;", "calendar a = ^;", "calendar a = b ^c;", "calendar a = b; ^b", "calendar ^= b;",
		"resource ^4;", "resource a ^;", "resource a ^b;", "resource a ^-4;", "resource a 4 ^4;", "lock ^;", "lock a ^1;", "lock ^1;",
		"job ^{}", "job ^1 {}", "job a ^;", "job a ^b {}", "job a {} ^}", "job a {} ^;", "job a ^}",
	} {
		checkFault(t, s, api.ErrSyntax)
	}
	for _, s := range []string{"keep", "keep 1", "calendar", "calendar a = ", "calendar a = b", "resource", "resource a", "resource a 4", "lock", "lock a", "job", "job a {"} {
		checkEnd(t, s)
	}
	for _, s := range []string{"begin", "begin 04:00", "calendar a", "job a"} {
		checkFault(t, s+"^", api.ErrSyntax)
		checkFault(t, s+" # it\n^", api.ErrSyntax)
	}
}

func TestDaysThatCanNotBe(t *testing.T) { // P8.1
	for _, s := range []string{
		"^;", "^7", "^12:30", "^)", "(^)", "(a^;", "(a ^b)", "a ^)", "a ^b", "a ^7", "a^.any", "a and ^;", "a and ^or b", "a or ^)", "not ^)", "not ^and", "^+a", "^-1", "a^, b",
		"week ^mon", "week(^)", "week(^xyz)", "week(^1)", "week(mon ^tue)", "week(mon,^)", "week(mon, ^monday)", "week(mon)^)", "week(^not)",
		"dates(^x)", "dates(^,)", "dates(20240329,^)", "dates(20240329 ^20240330)", "dates(^-20240329)", "dates(^12:30)",
		"dates(^20240230)", "dates(^20230229)", "dates(^00000101)", "dates(^20241301)", "dates(^20240100)", "dates(^2024032)", "dates(^202403290)", "dates(^020240329)", "dates(^0)", "dates(20240329, ^7)",
		"month(^)", "month(-^)", "month(^+1)", "month(1,^)", "month(1 ^2)", "month(-^-1)", "month(^mon)", "month(1^-1)",
		"nth(^1, mon)", "nth(^)", "nth(mon^)", "nth(mon,^)", "nth(mon, ^tue)", "nth(mon, 1^, 2)", "nth(mon, -^)", "nth(^not, 1)",
		"work(^)", "work(^wk, 1)", "work(1^)", "work(1,^)", "work(1, ^2)", "work(1, wk^, 2)", "work(-^, wk)", "work(1, wk^.any)",
		"fiscal(^)", "fiscal(445^)", "fiscal(^-445, 1)", "fiscal(445, ^-1)", "fiscal(445,^)", "fiscal(445, 1^, 2)", "fiscal(^mon, 1)",
	} {
		checkFault(t, "calendar a = "+s+";", api.ErrSyntax)
		checkFault(t, "job a { days "+s+"; }", api.ErrSyntax)
		checkFault(t, "job a { shift prev "+s+"; }", api.ErrSyntax)
	}
	for _, s := range []string{"", "(", "a", "(a", "(a)", "a and", "a or", "not", "week", "week(", "week(mon", "week(mon,", "week(mon)", "dates", "dates(", "dates(20240329", "dates(20240329,", "dates()", "month", "month(", "month(-", "month(1", "month(1,", "nth", "nth(", "nth(mon", "nth(mon,", "nth(mon, 1", "work", "work(", "work(1", "work(1,", "work(1, wk", "fiscal", "fiscal(", "fiscal(445", "fiscal(445,", "fiscal(445, 1"} {
		checkEnd(t, "calendar a = "+s)
		checkEnd(t, "job a { days "+s)
		checkEnd(t, "job a { shift prev "+s)
	}
}

func TestConditionsThatCanNotBe(t *testing.T) { // P8.1
	for _, s := range []string{
		"^", "^7", "^12:30", "(^)", "(a^;", "(a ^b)", "a ^)", "a ^b", "a^(b)", "a.^", "a.^now", "a.^7", "a.^.any", "a.any^.any", "a^,b", "^+a", "^-a", "^.any",
		"a and ^", "a and ^and b", "a or ^)", "not ^)", "not ^or", "not ^.any", "week^(mon)", "^and", "^or.any",
	} {
		checkFault(t, "job a { in "+s+"; }", api.ErrSyntax)
	}
	for _, s := range []string{"in", "in (", "in a", "in a.", "in a.any", "in a or", "in a and", "in not", "in (a", "in (a)"} {
		checkEnd(t, "job a { "+s)
	}
}

func TestPartsThatCanNotBe(t *testing.T) { // P8.1
	for _, s := range []string{
		"^x;", "^;", "^7;", "^begin 04:00;", "^{", "^job b {}", "^(", "days a; ^a;",
		"shift ^;", "shift ^a;", "shift next^;", "shift next ^7;", "shift ^sideways a;", "shift ^1 a;",
		"window ^;", "window 04:00^;", "window 04:00 ^5;", "window 04:00^, 05:00;", "window 04:00 05:00 ^06:00;", "window ^4 05:00;",
		"out ^;", "out ^a;", "out +^;", "out +^7;", "out +a ^b;", "out +a,^;", "out +a, ^b;", "out +a ^+b;", "out +a.^x;", "out +a.^;", "out ^,;", "out +^+a;", "out -^-a;", "out ^(+a);",
		"need ^;", "need ^7;", "need a^;", "need a ^b;", "need a ^-1;", "need a 1 ^2;", "need a 1^, b 1;",
		"use ^;", "use a^;", "use a ^1;", "use a ^alone;", "use a shared^, b shared;", "use a shared ^exclusive;",
		"prio ^;", "prio ^x;", "prio ^-1;", "prio 1 ^2;", "wait ^x;", "wait ^12:30;", "wait ^-1;", "every ^;", "every ^12:30;", "every ^-1;", "runs ^x;", "runs ^;", "runs ^-1;", "retry ^-1;", "retry 1^}",
	} {
		checkFault(t, "job a { "+s+" }", api.ErrSyntax)
	}
	for _, s := range []string{"days", "shift", "shift next", "window 04:00 05:00", "out", "out +", "out +a", "out +a.", "out +a,", "need", "need a", "need a 1", "use", "use a", "use a shared", "prio", "prio 1", "wait", "every", "runs", "retry", "retry 1;"} {
		checkEnd(t, "job a { "+s)
	}
	for _, s := range []string{"window", "window 04:00"} {
		checkFault(t, "job a { "+s+"^", api.ErrSyntax)
	}
}

func TestWordsThatAreNone(t *testing.T) { // P8.1
	for _, s := range []string{"^*", "job a { prio 1; prio 2; ^9a }", "x y ^_z", "begin ^24:00;", "calendar a = week(xyz); ^\xff", "job a { in x; # it\n } ^12:3", "keep ^1234567890;", "job ^abcdefghijklmnopqrstu {}", "begin 04:00; ^:", "job a { out +a^! }"} {
		checkFault(t, s, api.ErrSyntax)
	}
	checkFault(t, "^"+strings.Repeat("x", api.MaxText+1), api.ErrSize)
	checkFault(t, "^"+strings.Repeat(" ", api.MaxText+1), api.ErrSize)
	checkFault(t, "keep 1"+strings.Repeat(" ", api.MaxText-6)+"^", api.ErrSyntax)
	checkRight(t, "keep 1;"+strings.Repeat(" ", api.MaxText-7))
	checkRight(t, strings.Repeat("#", api.MaxText))
}

func TestWhatStandsTwice(t *testing.T) { // P8.1
	for _, s := range []string{"begin 04:00;", "keep 7;"} {
		word, _, _ := strings.Cut(s, " ")
		checkFault(t, s+" ^"+s, api.ErrTwice)
		checkFault(t, s+" job a {} lock b; calendar c = d; ^"+s, api.ErrTwice)
		checkFault(t, s+" ^"+word, api.ErrTwice)
		checkFault(t, s+" ^"+word+" x y z", api.ErrTwice)
	}
	parts := []string{"days a;", "shift next a;", "window 04:00 05:00;", "in a;", "prio 1;", "wait 1;", "every 1;", "runs 1;", "retry 1;"}
	all := strings.Join(parts, " ")
	for _, s := range parts {
		word, _, _ := strings.Cut(s, " ")
		checkFault(t, "job a { "+s+" ^"+s+" }", api.ErrTwice)
		checkFault(t, "job a { "+all+" ^"+s+" }", api.ErrTwice)
		checkFault(t, "job b { "+all+" } job a { "+all+" out +a; ^"+s+" }", api.ErrTwice)
		checkFault(t, "job a { "+s+" ^"+word, api.ErrTwice)
		checkFault(t, "job a { "+s+" ^"+word+" ) x", api.ErrTwice)
		checkRight(t, "job a { "+s+" } job a { "+s+" }")
	}
	checkRight(t, "job a { out +a; out +a; need r 1; need r 1; use l shared; use l shared; }")
	checkRight(t, "lock a; lock a; resource a 1; resource a 1; calendar a = b; calendar a = b; job a {} job a {}")
}

func TestHowManyItems(t *testing.T) { // P8.1
	for _, x := range []struct {
		item string
		most int
	}{{"calendar a = b; ", 24}, {"resource a 1; ", 12}, {"lock a; ", 12}, {"job a {} ", 48}} {
		full := strings.Repeat(x.item, x.most)
		word, _, _ := strings.Cut(x.item, " ")
		checkRight(t, full)
		checkFault(t, full+"^"+x.item, api.ErrFull)
		checkFault(t, full+"^"+word, api.ErrFull)
		checkFault(t, full+"^"+word+" ; 7", api.ErrFull)
		checkRight(t, full+"begin 00:00; keep 1;")
	}
	mixed := strings.Repeat("resource a 1; lock a; ", 6)
	checkFault(t, mixed+"^lock b;", api.ErrFull)
	checkFault(t, mixed+"^resource b 1;", api.ErrFull)
	checkRight(t, mixed+strings.Repeat("calendar a = b; ", 24)+strings.Repeat("job a {} ", 48))
}

func TestHowManyOuts(t *testing.T) { // P8.1
	seven := "out +a" + strings.Repeat(", -b", 6)
	eight := seven + ", +c.any"
	checkRight(t, "job a { "+eight+"; }")
	checkRight(t, "job a { "+seven+"; out +a; }")
	checkRight(t, "job a { "+eight+"; } job b { "+eight+"; }")
	checkRight(t, "job a {"+strings.Repeat("out +a; ", 8)+"}")
	for _, more := range []string{"^+a; }", "^-a", "^a; }", "^7", "^;", "^, +a", "^out +a", "^}", "^12:30", "^", " # it\n^", "^+"} {
		checkFault(t, "job a { "+eight+", "+more, api.ErrFull)
		checkFault(t, "job a { "+seven+"; out +a, "+more, api.ErrFull)
		checkFault(t, "job a { "+eight+"; prio 1; out "+more, api.ErrFull)
		checkFault(t, "job a {"+strings.Repeat("out +a; ", 8)+" out "+more, api.ErrFull)
	}
	checkFault(t, "job a { "+eight+" ^+a; }", api.ErrSyntax)
	checkFault(t, "job a { "+eight+"^", api.ErrSyntax)
}

func TestHowManyNeeds(t *testing.T) { // P8.1
	for _, s := range []string{strings.Repeat("need a 1; ", 6), strings.Repeat("use a shared; ", 6), strings.Repeat("need a 1; use b exclusive; ", 3)} {
		checkRight(t, "job a { "+s+"}")
		checkRight(t, "job a { "+s+"} job b { "+s+"}")
		for _, more := range []string{"need a 1; }", "use a shared; }", "need", "use", "use ;", "need 7 7 7"} {
			checkFault(t, "job a { "+s+"^"+more, api.ErrFull)
			checkFault(t, "job a { "+s+"prio 1; out +a; ^"+more, api.ErrFull)
		}
	}
}

// heads are all that stands ahead of days, and of a condition, each with what stands behind.
var heads = [][2]string{{"calendar a = ", ";"}, {"job a { days ", "; }"}, {"job a { shift prev ", "; }"}, {"job a { in ", "; }"}}

func TestHowManyParts(t *testing.T) { // P8.1
	for _, word := range []string{"and", "or"} {
		eight := "a" + strings.Repeat(" "+word+" a", 7)
		for _, head := range heads {
			checkRight(t, head[0]+eight+head[1])
			checkRight(t, head[0]+"("+eight+") "+word+" ("+eight+")"+head[1])
			checkRight(t, head[0]+"not ("+eight+") "+word+" not ("+eight+")"+head[1])
			for _, more := range []string{"^a;", "^not a", "^(a)", "^;", "^)", "^7", "^12:30", "^and", "^or", "^week", "^}", "^{", "^", " # it\n^"} {
				checkFault(t, head[0]+eight+" "+word+" "+more, api.ErrFull)
				checkFault(t, head[0]+"(b or not ("+eight+" "+word+" "+more, api.ErrFull)
			}
			checkFault(t, head[0]+eight+" ^a", api.ErrSyntax)
			checkFault(t, head[0]+eight+"^", api.ErrSyntax)
		}
	}
	ands := "a" + strings.Repeat(" and a", 7)
	ors := ands + strings.Repeat(" or "+ands, 7)
	for _, head := range heads {
		checkRight(t, head[0]+ors+head[1])
		checkFault(t, head[0]+ors+" or ^"+ands+head[1], api.ErrFull)
		checkFault(t, head[0]+ors+" and ^a"+head[1], api.ErrFull)
		checkFault(t, head[0]+ands+" or "+ands+" and ^b or c"+head[1], api.ErrFull)
	}
}

func TestHowManyNumbers(t *testing.T) { // P8.1
	for _, x := range [][2]string{{"dates", "20240329"}, {"month", "-1"}, {"month", "31"}} {
		full := x[0] + "(" + x[1] + strings.Repeat(", "+x[1], 63)
		for _, head := range heads[:3] {
			checkRight(t, head[0]+full+")"+head[1])
			checkRight(t, head[0]+full+") or "+full+")"+head[1])
			checkFault(t, head[0]+full+"^", api.ErrSyntax)
			checkFault(t, head[0]+full+" ^x", api.ErrSyntax)
			for _, more := range []string{"^" + x[1] + ");", "^x", "^-1", "^-", "^20240230", "^)", "^,", "^;", "^mon", "^(", "^", " # it\n^"} {
				checkFault(t, head[0]+full+", "+more, api.ErrFull)
			}
		}
	}
	checkRight(t, "calendar a = week(mon"+strings.Repeat(", tue", 99)+");")
}

func TestHowDeep(t *testing.T) { // P8.1
	for _, head := range heads {
		for brackets := range 17 {
			around := head[0] + strings.Repeat("(", brackets) + strings.Repeat("not ", 16-brackets)
			behind := strings.Repeat(")", brackets) + head[1]
			checkRight(t, around+"a"+behind)
			checkFault(t, around+"^(a)"+behind, api.ErrDeep)
			checkFault(t, around+"^not a"+behind, api.ErrDeep)
			checkFault(t, around+"^(", api.ErrDeep)
			checkFault(t, around+"^not not (", api.ErrDeep)
			checkFault(t, around+"^)", api.ErrSyntax)
			checkFault(t, around+"^and", api.ErrSyntax)
			checkFault(t, around+"^", api.ErrSyntax)
		}
		sixteen := head[0] + strings.Repeat("(", 16)
		checkFault(t, sixteen+"a or b and ^(c", api.ErrDeep)
		checkFault(t, sixteen+"a"+strings.Repeat(" or a", 7)+" or ^(", api.ErrFull)
		checkFault(t, sixteen+"^"+strings.Repeat("(", 8000), api.ErrDeep)
		checkFault(t, head[0]+strings.Repeat("(not ", 8)+"a and not b) or not (not ^(c", api.ErrDeep)
		checkFault(t, head[0]+strings.Repeat("not ", 16)+"^"+strings.Repeat("not ", 2000), api.ErrDeep)
		checkRight(t, head[0]+strings.Repeat("(", 15)+"(a) or (b and c) and not d"+strings.Repeat(")", 15)+head[1])
	}
	for _, n := range []string{"week(mon)", "dates()", "month(1)", "nth(mon, 1)", "work(1, a)", "fiscal(445, 1)"} {
		checkRight(t, "calendar a = "+strings.Repeat("not ", 16)+n+";")
		checkRight(t, "calendar a = "+strings.Repeat("(", 16)+n+strings.Repeat(")", 16)+";")
	}
}

func TestTheFirstFaultIsTold(t *testing.T) { // P8.1
	deep := strings.Repeat("(", 17)
	checkFault(t, "job a { prio 1; ^prio 2; x", api.ErrTwice)
	checkFault(t, "job a { prio 1; ^x prio 2;", api.ErrSyntax)
	checkFault(t, "job a { prio ^x; prio 1; prio 2; }", api.ErrSyntax)
	checkFault(t, "begin 04:00; calendar a = ^; begin 05:00;", api.ErrSyntax)
	checkFault(t, "calendar a = "+strings.Repeat("(", 16)+"^"+"(; x begin begin", api.ErrDeep)
	checkFault(t, "calendar a = b ^b; calendar c = "+deep, api.ErrSyntax)
	checkFault(t, "keep 1; ^keep 2; calendar c = "+deep, api.ErrTwice)
	checkFault(t, strings.Repeat("lock a; ", 12)+"^lock b; lock", api.ErrFull)
	checkFault(t, strings.Repeat("lock a; ", 12)+"^x lock b;", api.ErrSyntax)
}
