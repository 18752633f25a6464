package jdl

import (
	"math"
	"reflect"
	"regexp"
	"strings"
	"testing"

	"dayshift/api"
	"dayshift/cal"
	"dayshift/lex"
)

// wholeSource has all items and parts, as Print writes them.
const wholeSource = `begin 04:00;
keep 7;
calendar hol = dates(20240329, 20240401);
calendar wk = (week(mon, tue, wed, thu, fri) and not hol);
calendar none = dates();
calendar ends = ((month(1, -1) and not not (nth(thu, -1) or fiscal(445, 1))) or work(-2, wk) or week(sun));
resource cpu 4;
lock db;
resource gpu 0;
job a {
  days work(-1, wk);
  shift next wk;
  window 22:00 02:00;
  in (x or not y.prev);
  out +a, -x.any, +not.prev;
  need cpu 2;
  use db shared;
  use tape exclusive;
  prio 9;
  wait 2;
  every 30;
  runs 4;
  retry 3;
}
job b {
  shift prev (wk or ends);
  window 00:00 23:59;
  in not (x.any and (y or z));
  prio 0;
  wait 0;
  every 0;
  runs 1;
  retry 0;
}
job c {
  days not wk;
  shift skip not ends;
  window 00:00 23:59;
  prio 0;
  wait 0;
  every 0;
  runs 1;
  retry 0;
}
`

func TestPrintOfAWholeSource(t *testing.T) { // P8.2, P8.3
	if s := Print(parsed(t, wholeSource)); s != wholeSource {
		t.Errorf("Print = %s", s)
	}
	if s := Print(parsed(t, strings.ToUpper(strings.ReplaceAll(wholeSource, " ", "\n\n\t#\n")))); s != wholeSource {
		t.Errorf("Print of another layout = %s", s)
	}
}

func TestPrintOfLittle(t *testing.T) { // P8.2
	for s, want := range map[string]string{
		"":                      "begin 00:00;\nkeep 7;\n",
		"begin 23:59; keep 0;":  "begin 23:59;\nkeep 0;\n",
		"keep 007;begin 00:01;": "begin 00:01;\nkeep 7;\n",
		"job a {}":              "begin 00:00;\nkeep 7;\njob a {\n  window 00:00 23:59;\n  prio 0;\n  wait 0;\n  every 0;\n  runs 1;\n  retry 0;\n}\n",
		"job a {} lock b; calendar c=d; resource e 5;": "begin 00:00;\nkeep 7;\ncalendar c = d;\nlock b;\nresource e 5;\njob a {\n  window 00:00 23:59;\n  prio 0;\n  wait 0;\n  every 0;\n  runs 1;\n  retry 0;\n}\n",
	} {
		if got := Print(parsed(t, s)); got != want {
			t.Errorf("Print of %q = %q", s, got)
		}
	}
}

func TestPrintOfDays(t *testing.T) { // P8.2
	for s, want := range map[string]string{
		"week(sun,mon,sun)":              "week(mon, sun)",
		"WEEK(tue)":                      "week(tue)",
		"dates()":                        "dates()",
		"dates(00010101,99991231)":       "dates(00010101, 99991231)",
		"month(- 1,01,-0)":               "month(-1, 1, 0)",
		"nth(wed,- 05)":                  "nth(wed, -5)",
		"nth(mon,2)":                     "nth(mon, 2)",
		"work(- 1,and)":                  "work(-1, and)",
		"work(3,x)":                      "work(3, x)",
		"fiscal(00454,07)":               "fiscal(454, 7)",
		"((hol))":                        "hol",
		"not(hol)":                       "not hol",
		"not not(not hol)":               "not not not hol",
		"a and b":                        "(a and b)",
		"a or b":                         "(a or b)",
		"a or b and c":                   "(a or (b and c))",
		"a and b or c and d":             "((a and b) or (c and d))",
		"(a or b) or c":                  "((a or b) or c)",
		"not(a and b)and c":              "(not (a and b) and c)",
		"a or b or week(mon)or month(1)": "(a or b or week(mon) or month(1))",
	} {
		if got := Print(parsed(t, "calendar x = "+s+";")); got != "begin 00:00;\nkeep 7;\ncalendar x = "+want+";\n" {
			t.Errorf("Print of %q = %q", s, got)
		}
		if got := Print(parsed(t, "job x { days "+s+"; shift prev "+s+"; }")); !strings.Contains(got, "\njob x {\n  days "+want+";\n  shift prev "+want+";\n  window ") {
			t.Errorf("Print of %q = %q", s, got)
		}
	}
}

func TestPrintOfConditionsAndOuts(t *testing.T) { // P8.2
	for s, want := range map[string]string{
		"in x.odat;":                 "in x;",
		"in x . prev;":               "in x.prev;",
		"in not x.any;":              "in not x.any;",
		"in ((x));":                  "in x;",
		"in x and y or z;":           "in ((x and y) or z);",
		"in not(x or y)and week;":    "in (not (x or y) and week);",
		"in (x and y) and z;":        "in ((x and y) and z);",
		"out + x;":                   "out +x;",
		"out +x.odat,- y . any;":     "out +x, -y.any;",
		"out -x.prev;out +or;":       "out -x.prev, +or;",
		"use l shared;need r 007;":   "use l shared;\n  need r 7;",
		"need r 0;use l exclusive;":  "need r 0;\n  use l exclusive;",
		"need a 1;out +x;need b 2;":  "out +x;\n  need a 1;\n  need b 2;",
		"out +x;in y;":               "in y;\n  out +x;",
		"need cpu 999999999;out -a;": "out -a;\n  need cpu 999999999;",
	} {
		got := Print(parsed(t, "job a { "+s+" }"))
		if got != "begin 00:00;\nkeep 7;\njob a {\n  window 00:00 23:59;\n  "+want+"\n  prio 0;\n  wait 0;\n  every 0;\n  runs 1;\n  retry 0;\n}\n" {
			t.Errorf("Print of %q = %q", s, got)
		}
	}
}

// blanksOf has a text's words with the blanks that the document asks for between.
func blanksOf(t *testing.T, line string) string {
	t.Helper()
	words, _, e := lex.Tokens(line)
	if e != api.OK {
		t.Fatal("no words", line)
	}
	calls := regexp.MustCompile(`^(week|dates|month|nth|work|fiscal)$`)
	s := ""
	for i, w := range words {
		if i > 0 {
			ahead := words[i-1]
			none := strings.Contains(";,).", w.Text) || strings.Contains("(.+-", ahead.Text) || w.Text == "(" && calls.MatchString(ahead.Text)
			if !none {
				s += " "
			}
		}
		s += w.Text
	}
	return s
}

func TestPrintedBlanks(t *testing.T) { // P8.2
	for seed := range int64(2000) {
		x := newMaker(seed).source()
		s := Print(x)
		if !strings.HasSuffix(s, "\n") {
			t.Fatalf("no line's end: %q", s)
		}
		for _, line := range strings.Split(strings.TrimSuffix(s, "\n"), "\n") {
			want := blanksOf(t, line)
			if !strings.HasSuffix(line, " {") && line != "}" && strings.HasPrefix(line, " ") {
				want = "  " + want
			}
			if line != want {
				t.Fatalf("%q, not %q", line, want)
			}
		}
	}
}

func TestAsItWasWritten(t *testing.T) { // P8.1, P8.3
	seen := 0
	for seed := range int64(5000) {
		m := newMaker(seed)
		x := m.source()
		if s := m.text(x); len(s) <= api.MaxText {
			checkSource(t, s, x)
		}
		s := Print(x)
		if len(s) > api.MaxText {
			continue
		}
		seen++
		again, at, e := Parse(s)
		if !reflect.DeepEqual(again, x) || at != 0 || e != api.OK {
			t.Fatalf("Parse of Print = %+v %d %d, not %+v: %s", again, at, e, x, s)
		}
		if Print(again) != s {
			t.Fatalf("Print of it again: %s", s)
		}
	}
	if seen < 4000 {
		t.Error("seen too seldom", seen)
	}
}

func TestPrintMayBeTooDeep(t *testing.T) { // P8.3
	for deep := range 17 {
		s := strings.Repeat("(not ", deep/2) + strings.Repeat("not ", deep%2) + "(a and b)" + strings.Repeat(")", deep/2)
		if deep == 16 {
			s = strings.Repeat("not ", 15) + "(a and b)"
		}
		x := parsed(t, "calendar c = "+s+";")
		if again := parsed(t, Print(x)); !reflect.DeepEqual(again, x) {
			t.Error("as it was written", s)
		}
	}
	x := parsed(t, "calendar c = "+strings.Repeat("(", 16)+"a and b or c"+strings.Repeat(")", 16)+";")
	if again := parsed(t, Print(x)); !reflect.DeepEqual(again, x) {
		t.Error("brackets that are not needed are gone", again)
	}
	x = parsed(t, "job a { in "+strings.Repeat("not ", 15)+"(a and b or c); }")
	if _, _, e := Parse(Print(x)); e != api.ErrDeep {
		t.Error("17 deep", e)
	}
}

// TestPrintOfAnything holds no promise but that it ends and does not panic.
func TestPrintOfAnything(t *testing.T) { // P6
	numbers := []int64{math.MinInt64, -1, 0, 1, 2, 3, 7, math.MaxInt64}
	for op := -1; op <= 11; op++ {
		for _, k := range numbers {
			for _, n := range []cal.Node{{Op: op}, {Op: op, N: []int64{k}}, {Op: op, N: []int64{k, k}}, {Op: op, Kids: []cal.Node{{}, {Op: op}}}} {
				x := Source{Begin: k, Keep: k, Cals: []cal.Cal{{Days: n}}, Res: []Res{{Units: k}}}
				x.Jobs = []Job{{Days: n, Work: n, Shift: true, Dir: int(k), From: k, To: k, In: Expr{Op: op, When: int(k), Kids: []Expr{{Op: int(k)}, {Op: op}}}, Out: []Outcome{{When: int(k)}}, Needs: []Need{{Mode: int(k), N: k}}, Prio: k, Wait: k}}
				Print(x)
			}
		}
	}
	if s := Print(Source{}); s != "begin 00:00;\nkeep 0;\n" {
		t.Errorf("Print of nothing = %q", s)
	}
}
