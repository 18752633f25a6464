package cal

import (
	"math"
	"strconv"
	"testing"

	"dayshift/api"
)

var wrongDays = []int64{0, -1, api.MaxDay + 1, -api.MaxDay, math.MinInt64, math.MinInt64 + 1, math.MaxInt64, math.MaxInt64 - 1}

// tree is a node of so many nodes, at most 8 wide.
func tree(nodes int) Node {
	if nodes == 1 {
		return week7(127)
	}
	n := Node{Op: Or}
	left := nodes - 1
	for i := min(left, 8); i > 0; i-- {
		n.Kids = append(n.Kids, tree(left/i))
		left -= left / i
	}
	return n
}

// chain is calendars, each one of the next, the last one of some days.
func chain(count int, last Node) []Cal {
	var l []Cal
	for i := range count - 1 {
		l = append(l, calendar(strconv.Itoa(i), ref(strconv.Itoa(i+1))))
	}
	return append(l, calendar(strconv.Itoa(count-1), last))
}

// checkError asks all three that have In's errors, of both of Due's nodes, and holds the zero values beside an error.
func checkError(t *testing.T, name string, l []Cal, n Node, day int64, want api.Errno) {
	t.Helper()
	if is, e := In(l, n, day); is && want != api.OK || e != want {
		t.Error(name, "In", is, e)
	}
	always := week7(127)
	for dir := -1; dir <= 1; dir++ {
		if to, e := Shift(l, n, dir, day); e != want && (want != api.OK || e != api.ErrNone) || e != api.OK && to != 0 {
			t.Error(name, "Shift", dir, to, e)
		}
		if is, e := Due(l, n, always, dir, day); is && want != api.OK || e != want {
			t.Error(name, "Due of", dir, is, e)
		}
		if is, e := Due(l, always, n, dir, day); is && want != api.OK || e != want {
			t.Error(name, "Due to work", dir, is, e)
		}
	}
}

func TestErrorsAheadOfTheWalk(t *testing.T) { // P6.2, P6
	full := chain(24, week7(127))
	more := append(chain(24, week7(127)), calendar("x", week7(1)))
	bad := []Cal{calendar("a", week7(1)), calendar("b", Node{})}
	checkError(t, "24 calendars", full, ref("0"), 5, api.OK)
	checkError(t, "25 calendars", more, ref("0"), 5, api.ErrSize)
	checkError(t, "25 calendars", more, week7(1), 5, api.ErrSize)
	checkError(t, "no days", nil, week7(1), 5, api.OK)
	checkError(t, "a name in no list", nil, ref("a"), 5, api.ErrName)
	checkError(t, "a calendar that can not be", bad, ref("a"), 5, api.ErrArg)
	checkError(t, "a calendar that can not be, and nobody asks for", bad, week7(1), 5, api.ErrArg)
	for _, day := range wrongDays {
		checkError(t, "the size ahead", more, Node{}, day, api.ErrSize)
		if is, e := In(full, Node{}, day); is || e != api.ErrArg {
			t.Error("the argument ahead", is, e)
		}
		checkError(t, "a calendar ahead", bad, ref("none"), day, api.ErrArg)
		checkError(t, "the day ahead of names", full, ref("none"), day, api.ErrRange)
		checkError(t, "the day", nil, week7(127), day, api.ErrRange)
	}
	for _, n := range wrongNodes() {
		checkError(t, "can not be", nil, n, 5, api.ErrArg)
		checkError(t, "can not be", []Cal{calendar("a", n)}, ref("a"), 5, api.ErrArg)
	}
}

func TestHowManyNodesAreMet(t *testing.T) { // P6.2
	checkError(t, "256", nil, tree(256), 5, api.OK)
	checkError(t, "257", nil, tree(257), 5, api.ErrDeep)
	checkError(t, "many", nil, tree(20000), 5, api.ErrDeep)
	l := []Cal{calendar("a", tree(31)), calendar("b", tree(30)), calendar("c", tree(255)), calendar("d", tree(256))}
	checkError(t, "256 by Refs", l, or(append(times(7, ref("a")), ref("b"))...), 5, api.OK)
	checkError(t, "257 by Refs", l, or(times(8, ref("a"))...), 5, api.ErrDeep)
	checkError(t, "256 by one Ref", l, ref("c"), 5, api.OK)
	checkError(t, "257 by one Ref", l, ref("d"), 5, api.ErrDeep)
	checkError(t, "256 by a Work", l, workday(1, "c"), 5, api.OK)
	checkError(t, "257 by a Work", l, workday(1, "d"), 5, api.ErrDeep)
	checkError(t, "a calendar that is too large, and nobody asks for", l, week7(1), 5, api.OK)
	checkError(t, "the 257th ahead of its name", l, or(tree(255), ref("none")), 5, api.ErrDeep)
	checkError(t, "the 256th has a name", l, or(tree(254), ref("none")), 5, api.ErrName)
	checkError(t, "a name ahead of the 257th", l, or(ref("none"), tree(256)), 5, api.ErrName)
}

func TestWorkInAWork(t *testing.T) { // P6.2
	l := []Cal{calendar("w", week7(31)), calendar("k", workday(1, "w")), calendar("r", ref("k")), calendar("m", or(week7(1), not(workday(1, "none")))), calendar("n", or(ref("none"), workday(1, "w")))}
	checkError(t, "one", l, workday(1, "w"), 5, api.OK)
	checkError(t, "by a Ref", l, ref("k"), 5, api.OK)
	checkError(t, "by Refs", l, ref("r"), 5, api.OK)
	checkError(t, "one beside the other", l, or(workday(1, "w"), ref("k"), workday(2, "w")), 5, api.OK)
	checkError(t, "in a Work", l, workday(1, "k"), 5, api.ErrDeep)
	checkError(t, "behind a Ref", l, workday(1, "r"), 5, api.ErrDeep)
	checkError(t, "ahead of its name", l, workday(1, "m"), 5, api.ErrDeep)
	checkError(t, "its name, outside", l, ref("m"), 5, api.ErrName)
	checkError(t, "behind a name", l, workday(1, "n"), 5, api.ErrName)
	checkError(t, "no name", l, workday(1, "none"), 5, api.ErrName)
	checkError(t, "itself", []Cal{calendar("k", workday(1, "k"))}, ref("k"), 5, api.ErrDeep)
}

func TestRefsOneWithinTheOther(t *testing.T) { // P6.2
	checkError(t, "24", chain(24, week7(127)), ref("0"), 5, api.OK)
	checkError(t, "24, the last of a Work", append(chain(23, workday(1, "w")), calendar("w", week7(31))), ref("0"), 5, api.OK)
	checkError(t, "24, the first of a Work", chain(24, week7(127)), workday(1, "0"), 5, api.OK)
	checkError(t, "25, a Ref", chain(24, ref("23")), ref("0"), 5, api.ErrDeep)
	checkError(t, "25, a Work", chain(24, workday(1, "23")), ref("0"), 5, api.ErrDeep)
	checkError(t, "a name ahead of how deep", chain(24, ref("none")), ref("0"), 5, api.ErrName)
	checkError(t, "a Work ahead of its name", chain(24, workday(1, "none")), workday(1, "0"), 5, api.ErrDeep)
	checkError(t, "one beside the other", chain(24, week7(127)), or(ref("0"), ref("0"), ref("23")), 5, api.OK)
	loop := []Cal{calendar("a", ref("b")), calendar("b", not(ref("a")))}
	checkError(t, "a loop", loop, ref("a"), 5, api.ErrDeep)
	checkError(t, "a loop that nobody asks for", loop, week7(127), 5, api.OK)
	wide := []Cal{calendar("a", or(times(8, ref("a"))...))}
	checkError(t, "a wide loop", wide, ref("a"), 5, api.ErrDeep)
	checkError(t, "a name ahead of a loop", loop, or(ref("none"), ref("a")), 5, api.ErrName)
	checkError(t, "a name behind a loop", loop, or(ref("a"), ref("none")), 5, api.ErrDeep)
}

// TestErrorsOfAnyCalendars lets calendars go round, to names that are none, and to Works.
func TestErrorsOfAnyCalendars(t *testing.T) { // P6.2
	seen := map[api.Errno]int{}
	for seed := range int64(3000) {
		r := newMaker(seed)
		names := append([]string{"none"}, r.names...)
		if seed%2 == 0 {
			names = r.names
		}
		var l []Cal
		for _, name := range r.names {
			l = append(l, calendar(name, or(r.node(3, names), r.node(2, names))))
		}
		n := and(r.node(3, names), r.node(3, names), r.node(3, names))
		want := modelError(l, n)
		seen[want]++
		if is, e := In(l, n, 1+r.Int63n(api.MaxDay)); e != want || e != api.OK && is {
			t.Fatal("In", seed, l, n, is, e, want)
		}
	}
	for _, e := range []api.Errno{api.OK, api.ErrName, api.ErrDeep} {
		if seen[e] < 100 {
			t.Error("seen too seldom", seen)
		}
	}
}
