package cal

import (
	"reflect"
	"testing"

	"dayshift/api"
	"dayshift/week"
)

// cloneNode is a node in other memory.
func cloneNode(n Node) Node {
	n.N = append([]int64(nil), n.N...)
	var kids []Node
	for _, kid := range n.Kids {
		kids = append(kids, cloneNode(kid))
	}
	n.Kids = kids
	return n
}

func cloneCals(l []Cal) []Cal {
	var to []Cal
	for _, c := range l {
		to = append(to, calendar(c.Name, cloneNode(c.Days)))
	}
	return to
}

// daysIn has the days of a node from one day to another.
func daysIn(t *testing.T, l []Cal, n Node, from, to int64) []int64 {
	t.Helper()
	var got []int64
	for day := from; day <= to; day++ {
		is, e := In(l, n, day)
		if e != api.OK {
			t.Fatal("In", n, day, e)
		}
		if is {
			got = append(got, day)
		}
	}
	return got
}

// same tells whether two lists have the same days; an empty one may be nil.
func same(a, b []int64) bool {
	return len(a) == 0 && len(b) == 0 || reflect.DeepEqual(a, b)
}

// in has the days of one month by their places in it.
func in(y, m int, l ...int) []int64 {
	var days []int64
	for _, d := range l {
		days = append(days, on(y, m, d))
	}
	return days
}

func TestDaysOfOneMonth(t *testing.T) { // P6.2
	l := []Cal{calendar("hol", dates(on(2024, 3, 29), on(2024, 4, 1))), calendar("work", and(week7(31), not(ref("hol")))), calendar("never", week7(0)), calendar("never", week7(127)), calendar("ends", month31(1, -1))}
	known := []struct {
		y, m int
		n    Node
		want []int64
	}{
		{2024, 3, week7(0), nil}, {2024, 3, week7(1), in(2024, 3, 4, 11, 18, 25)}, {2024, 3, week7(64), in(2024, 3, 3, 10, 17, 24, 31)}, {2024, 3, week7(33), in(2024, 3, 2, 4, 9, 11, 16, 18, 23, 25, 30)},
		{2024, 3, dates(), nil}, {2024, 3, dates(on(2024, 3, 1), on(2024, 3, 31), on(2024, 2, 29), on(2024, 4, 1), on(2024, 3, 1), 1, api.MaxDay), in(2024, 3, 1, 31)},
		{2024, 2, month31(), nil}, {2024, 2, month31(1, 29, 30, 31, -1, -29, -30, -31), in(2024, 2, 1, 29)}, {2023, 2, month31(29, -1), in(2023, 2, 28)}, {2024, 4, month31(31, -31), nil},
		{2024, 2, nth(3, -1), in(2024, 2, 29)}, {2024, 2, nth(3, 5), in(2024, 2, 29)}, {2023, 2, nth(3, 5), nil}, {2023, 2, nth(3, -5), nil}, {2024, 3, nth(4, -1), in(2024, 3, 29)}, {2024, 3, nth(0, 1), in(2024, 3, 4)},
		{2024, 3, workday(-1, "work"), in(2024, 3, 28)}, {2024, 4, workday(1, "work"), in(2024, 4, 2)}, {2024, 3, workday(20, "work"), in(2024, 3, 28)}, {2024, 3, workday(21, "work"), nil}, {2024, 3, workday(-20, "work"), in(2024, 3, 1)}, {2024, 3, workday(-21, "work"), nil},
		{2024, 3, workday(1, "never"), nil}, {2024, 3, workday(-31, "never"), nil}, {2024, 3, workday(2, "ends"), in(2024, 3, 31)},
		{2024, 1, fiscal(445, 1), in(2024, 1, 1, 29)}, {2024, 2, fiscal(445, 1), in(2024, 2, 26)}, {2024, 3, fiscal(445, 1), nil}, {2024, 4, fiscal(445, 1), in(2024, 4, 1, 29)},
		{2024, 2, fiscal(454, 1), nil}, {2024, 3, fiscal(454, 1), in(2024, 3, 4)}, {2024, 2, fiscal(544, 1), in(2024, 2, 5)}, {2024, 2, fiscal(454, 2), in(2024, 2, 5)}, {2024, 3, fiscal(544, 2), in(2024, 3, 11)},
		{2024, 3, ref("hol"), in(2024, 3, 29)}, {2024, 3, ref("never"), nil}, {2024, 2, not(month31(1, -1)), daysIn(t, nil, week7(127), on(2024, 2, 2), on(2024, 2, 28))},
		{2024, 3, and(week7(16), month31(1, 2, 3, -3)), in(2024, 3, 1, 29)}, {2024, 3, or(ref("ends"), nth(4, 2)), in(2024, 3, 1, 8, 31)}, {2024, 3, and(ref("work"), month31(28, 29, 30)), in(2024, 3, 28)},
	}
	for _, x := range known {
		days := monthDays(on(x.y, x.m, 1))
		if got := daysIn(t, l, x.n, days[0], days[len(days)-1]); !same(got, x.want) {
			t.Errorf("%d %d: %+v: %d, not %d", x.y, x.m, x.n, got, x.want)
		}
	}
}

// spans are years, from their first to their last days, of each kind, and at both ends of time.
func spans() [][2]int64 {
	var l [][2]int64
	for _, y := range []int{1, 2, 4, 100, 400, 1582, 1899, 1900, 1999, 2000, 2001, 2023, 2024, 2100, 9996, 9998, 9999} {
		l = append(l, [2]int64{on(y, 1, 1), on(y, 12, 31)})
	}
	return l
}

func TestDaysOfWholeYears(t *testing.T) { // P6.2
	l := []Cal{calendar("work", and(week7(31), not(or(month31(1), nth(0, -1)))))}
	nodes := []Node{week7(31), week7(64), month31(1, -1, 31, -31, 30, 29), nth(0, 1), nth(6, 5), nth(2, -5), nth(4, -1), workday(1, "work"), workday(-1, "work"), workday(21, "work"), workday(-22, "work"), ref("work")}
	for begins := range int64(12) {
		nodes = append(nodes, fiscal(445, begins+1), fiscal(454, begins+1), fiscal(544, begins+1))
	}
	for _, n := range nodes {
		for _, span := range spans() {
			for day := span[0]; day <= span[1]; day++ {
				if is, e := In(l, n, day); is != modelIn(l, n, day) || e != api.OK {
					t.Fatal("In", n, dateOf(day), is, e)
				}
			}
		}
	}
}

func TestDaysOfAnyNodes(t *testing.T) { // P6.2, P6.4
	for seed := range int64(1500) {
		r := newMaker(seed)
		l := r.cals()
		n := r.node(4, r.names)
		wasList, was := cloneCals(l), cloneNode(n)
		for range 60 {
			day := min(max(r.near+r.Int63n(120)-60, 1), api.MaxDay)
			want, wantError := false, modelError(l, n)
			if wantError == api.OK {
				want = modelIn(l, n, day)
			}
			if is, e := In(l, n, day); is != want || e != wantError {
				t.Fatal("In", seed, l, n, day, is, e, wantError)
			}
		}
		if !reflect.DeepEqual(cloneCals(l), wasList) || !reflect.DeepEqual(cloneNode(n), was) {
			t.Fatal("changed", seed)
		}
	}
}

func TestNodesAreSets(t *testing.T) { // P6.4
	for seed := range int64(300) {
		r := newMaker(seed)
		a, b, c := r.node(2, nil), r.node(2, nil), r.node(2, nil)
		day := min(max(r.near, 1), api.MaxDay-40)
		has := func(n Node) []int64 { return daysIn(t, nil, n, day, day+40) }
		pairs := [][2]Node{
			{not(not(a)), a}, {and(a, b), and(b, a)}, {or(a, b), or(b, a)}, {and(a), a}, {or(a), a}, {and(a, a), a}, {or(a, a), a},
			{not(and(a, b)), or(not(a), not(b))}, {not(or(a, b)), and(not(a), not(b))},
			{and(a, or(b, c)), or(and(a, b), and(a, c))}, {or(a, and(b, c)), and(or(a, b), or(a, c))}, {and(a, b, c), and(a, and(b, c))}, {or(a, b, c), or(or(a, b), c)},
			{and(a, not(a)), week7(0)}, {or(a, not(a)), week7(127)},
		}
		for i, x := range pairs {
			if !same(has(x[0]), has(x[1])) {
				t.Fatal("sets", seed, i, a, b, c)
			}
		}
	}
}

func TestFiscalPeriods(t *testing.T) { // P6.6
	gaps := map[int64][]int64{445: {28, 28, 35}, 454: {28, 35, 28}, 544: {35, 28, 28}}
	for pattern, gap := range gaps {
		for begins := range int64(12) {
			for _, y := range []int64{1, 4, 1900, 1999, 2000, 2023, 2024, 9997} {
				first, _ := week.Nth(y, begins+1, 0, 1)
				next, _ := week.Nth(y+1, begins+1, 0, 1)
				l := daysIn(t, nil, fiscal(pattern, begins+1), first, next)
				if len(l) != 13 || l[0] != first || l[12] != next {
					t.Fatal("periods", pattern, begins, y, l)
				}
				for i := range 12 {
					wide := l[i+1] - l[i]
					if weekdayOf(l[i]) != 0 || wide != gap[i%3] && (i < 11 || wide != gap[2]+7) {
						t.Fatal("periods", pattern, begins, y, i, l)
					}
				}
			}
		}
	}
}

func TestFiscalYearsBeginWithTheYear1(t *testing.T) { // P6.2
	for begins := range int64(12) {
		first := firstMonday(1, int(begins+1))
		if l := daysIn(t, nil, fiscal(445, begins+1), 1, first); !same(l, []int64{first}) {
			t.Error("begins", begins+1, l)
		}
		last := daysIn(t, nil, fiscal(445, begins+1), firstMonday(9999, int(begins+1)), api.MaxDay)
		if len(last) == 0 || last[0] != firstMonday(9999, int(begins+1)) {
			t.Error("ends", begins+1, last)
		}
	}
}
