package cal

import (
	"math"
	"testing"

	"dayshift/api"
)

// Short forms of nodes.
func week7(bits int64) Node                { return Node{Op: Week, N: []int64{bits}} }
func dates(l ...int64) Node                { return Node{Op: Dates, N: l} }
func month31(l ...int64) Node              { return Node{Op: Month, N: l} }
func nth(wd, k int64) Node                 { return Node{Op: Nth, N: []int64{wd, k}} }
func workday(k int64, name string) Node    { return Node{Op: Work, N: []int64{k}, Name: name} }
func fiscal(pattern, begins int64) Node    { return Node{Op: Fiscal, N: []int64{pattern, begins}} }
func and(kids ...Node) Node                { return Node{Op: And, Kids: kids} }
func or(kids ...Node) Node                 { return Node{Op: Or, Kids: kids} }
func not(kid Node) Node                    { return Node{Op: Not, Kids: []Node{kid}} }
func ref(name string) Node                 { return Node{Op: Ref, Name: name} }
func calendar(name string, days Node) Cal  { return Cal{Name: name, Days: days} }
func with(n Node, change func(*Node)) Node { change(&n); return n }

// nots is a node with so many nots ahead.
func nots(count int, n Node) Node {
	for range count {
		n = not(n)
	}
	return n
}

// times has one node so many times.
func times(count int, n Node) []Node {
	var l []Node
	for range count {
		l = append(l, n)
	}
	return l
}

// numbers has one number so many times.
func numbers(count int, k int64) []int64 {
	var l []int64
	for range count {
		l = append(l, k)
	}
	return l
}

func rightNodes() []Node {
	l := []Node{
		week7(0), week7(1), week7(31), week7(64), week7(127),
		dates(), dates(1), dates(api.MaxDay), dates(5, 5, 1), dates(numbers(64, 730179)...),
		month31(), month31(1), month31(31), month31(-1), month31(-31), month31(numbers(64, 1)...),
		nth(0, 1), nth(6, 5), nth(3, -1), nth(0, -5),
		workday(1, "a"), workday(31, "b"), workday(-1, "no such calendar"), workday(-31, "\x00"),
		fiscal(445, 1), fiscal(454, 12), fiscal(544, 6),
		ref("a"), ref(" "), ref("a name that is longer than a name of a source"),
		and(week7(1)), or(dates()), not(ref("a")), and(times(8, week7(1))...), or(times(8, ref("a"))...),
		nots(15, week7(1)), nots(14, and(week7(1), week7(2))), and(nots(13, or(week7(1))), week7(1)),
	}
	for _, n := range l {
		n.N = append([]int64{}, n.N...)
		n.Kids = append([]Node{}, n.Kids...)
		l = append(l, n) // what is empty may be nil or not
	}
	return l
}

func wrongNodes() []Node {
	l := []Node{{}, {N: []int64{1}}, {Name: "a"}}
	for _, op := range []int{0, -1, 11, 12, 255, 256, 257, math.MinInt, math.MaxInt, math.MinInt + 1} {
		for _, n := range []Node{week7(1), dates(), ref("a"), not(week7(1)), and(week7(1))} {
			l = append(l, with(n, func(n *Node) { n.Op = op }))
		}
	}
	for _, k := range []int64{-1, 128, 255, 256, 257, 1<<32 + 1, math.MinInt64, math.MaxInt64} {
		l = append(l, week7(k))
	}
	for _, k := range []int64{0, -1, api.MaxDay + 1, math.MinInt64, math.MaxInt64} {
		l = append(l, dates(k), dates(1, k), dates(k, 1))
	}
	for _, k := range []int64{0, 32, -32, 33, 1<<32 + 1, math.MinInt64, math.MaxInt64} {
		l = append(l, month31(k), month31(1, -1, k), workday(k, "a"))
	}
	for _, k := range []int64{0, 6, -6, 7, 31, 1<<32 + 1, math.MinInt64, math.MaxInt64} {
		l = append(l, nth(0, k), nth(7, k))
	}
	for _, wd := range []int64{-1, 7, 8, 1 << 32, math.MinInt64, math.MaxInt64} {
		l = append(l, nth(wd, 1), nth(wd, -5))
	}
	for _, k := range []int64{0, -1, 444, 446, 455, 545, 543, -445, 1<<32 + 445, math.MinInt64, math.MaxInt64} {
		l = append(l, fiscal(k, 1))
	}
	for _, k := range []int64{0, -1, 13, 1<<32 + 1, math.MinInt64, math.MaxInt64} {
		l = append(l, fiscal(445, k))
	}
	return append(l, wrongShapes()...)
}

// wrongShapes have too much, or too little, of something.
func wrongShapes() []Node {
	long := times(8, week7(1))
	l := []Node{
		dates(numbers(65, 1)...), month31(numbers(65, 1)...), dates(numbers(5000, 1)...),
		and(), or(), {Op: Not}, and(times(9, week7(1))...), or(times(9, week7(1))...), {Op: Not, Kids: long[:2]},
		nots(16, week7(1)), nots(15, and(week7(1))), nots(70000, week7(1)), and(week7(1), nots(15, week7(1))),
		and(Node{}), or(week7(1), week7(128)), not(month31(0)), and(long[0], or(long[1], not(Node{Op: 11}))),
	}
	for _, n := range []Node{week7(1), dates(1), dates(), month31(1), month31(), nth(0, 1), fiscal(445, 1), and(week7(1)), or(week7(1)), not(week7(1))} {
		l = append(l, with(n, func(n *Node) { n.Name = "a" }))
	}
	for _, n := range []Node{week7(1), dates(1), dates(), month31(1), month31(), nth(0, 1), workday(1, "a"), fiscal(445, 1), ref("a")} {
		l = append(l, with(n, func(n *Node) { n.Kids = long[:1] }))
	}
	for _, n := range []Node{week7(1), nth(0, 1), workday(1, "a"), fiscal(445, 1)} {
		l = append(l, with(n, func(n *Node) { n.N = nil }), with(n, func(n *Node) { n.N = []int64{} }), with(n, func(n *Node) { n.N = append([]int64{1}, n.N...) }), with(n, func(n *Node) { n.N = append([]int64{}, n.N[1:]...) }))
	}
	for _, n := range []Node{and(week7(1)), or(week7(1)), not(week7(1)), ref("a")} {
		l = append(l, with(n, func(n *Node) { n.N = []int64{1} }))
	}
	for _, n := range []Node{workday(1, "a"), ref("a")} {
		l = append(l, with(n, func(n *Node) { n.Name = "" }))
	}
	return append(l, ownKids()...)
}

// ownKids have themselves among their kids, at the first place, at the last one, and at all.
func ownKids() []Node {
	var l []Node
	for _, places := range [][]int{{0}, {7}, {0, 1, 2, 3, 4, 5, 6, 7}} {
		kids := times(8, week7(1))
		for _, i := range places {
			kids[i] = and(kids...)
		}
		l = append(l, or(kids...))
	}
	kids := times(1, week7(1))
	kids[0] = Node{Op: Not, Kids: kids}
	return append(l, kids[0])
}

func TestRight(t *testing.T) { // P6.1
	for _, n := range rightNodes() {
		if !Right(n) {
			t.Errorf("can be: %+v", n)
		}
	}
}

func TestNodesThatCanNotBe(t *testing.T) { // P6.1, P6
	for i, n := range wrongNodes() {
		if Right(n) {
			t.Errorf("can not be: %d, op %d, %d, %d kids, %q", i, n.Op, n.N, len(n.Kids), n.Name)
		}
	}
}

func TestFind(t *testing.T) { // P6.1
	l := []Cal{calendar("a", Node{}), calendar("b", week7(1)), calendar("a", week7(2)), calendar("B", week7(3)), calendar("", week7(4)), calendar("\xff", Node{Op: -1})}
	for name, want := range map[string]int{"a": 0, "b": 1, "B": 3, "": 4, "\xff": 5, "A": -1, "ab": -1, "a ": -1, "\xfe": -1} {
		if got := Find(l, name); got != want {
			t.Errorf("Find %q: %d", name, got)
		}
	}
	if Find(nil, "a") != -1 || Find([]Cal{}, "") != -1 || Find(l[:4], "") != -1 {
		t.Error("found")
	}
	long := append(make([]Cal, 1000), calendar("z", week7(1)))
	if Find(long, "z") != 1000 {
		t.Error("not found behind more calendars than there may be")
	}
}
