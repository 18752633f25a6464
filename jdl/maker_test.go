package jdl

import (
	"math/rand"
	"strconv"
	"strings"

	"dayshift/api"
	"dayshift/cal"
)

// maker makes sources, and writes each of them in one of many ways.
type maker struct{ *rand.Rand }

func newMaker(seed int64) maker { return maker{rand.New(rand.NewSource(seed))} }

func (m maker) chance(n int) bool { return m.Intn(n) == 0 }

// name is one that may stand anywhere.
func (m maker) name() string {
	names := []string{"a", "b", "x_1", "wk", "hol", "mon", "days", "any", "job", "begin", "abcdefghijklmnopqrst", "z9"}
	return names[m.Intn(len(names))]
}

// word is a name that may not stand in days or conditions, or another one.
func (m maker) word() string {
	names := []string{"not", "and", "or", "week", "work", "dates"}
	if m.chance(2) {
		return names[m.Intn(len(names))]
	}
	return m.name()
}

func (m maker) number() int64 {
	return []int64{0, 1, 2, 7, 99, 100, 1000, 999999999}[m.Intn(8)]
}

func (m maker) integer() int64 {
	if m.chance(2) {
		return -m.number()
	}
	return m.number()
}

func (m maker) minutes() int64 { return m.Int63n(api.DayMin) }

// several makes some of a kind.
func several[T any](m maker, least, most int, one func() T) []T {
	var l []T
	for range least + m.Intn(most-least+1) {
		l = append(l, one())
	}
	return l
}

func (m maker) day() int64 {
	if m.chance(3) {
		return []int64{1, api.MaxDay, 365, 738974}[m.Intn(4)]
	}
	return 1 + m.Int63n(api.MaxDay)
}

func (m maker) node(deep int) cal.Node {
	op := m.Intn(7)
	if deep > 0 {
		op = m.Intn(10)
	}
	switch op {
	case 0:
		return weekly(1 + m.Int63n(127))
	case 1:
		return dates(several(m, 0, 5, m.day)...)
	case 2:
		return month(several(m, 1, 5, m.integer)...)
	case 3:
		return nth(m.Int63n(7), m.integer())
	case 4:
		return work(m.integer(), m.word())
	case 5:
		return fiscal(m.number(), m.number())
	case 6:
		return ref(m.name())
	case 7:
		return notDays(m.node(deep - 1))
	}
	return cal.Node{Op: []int{cal.And, cal.Or}[op-8], Kids: several(m, 2, 4, func() cal.Node { return m.node(deep - 1) })}
}

func (m maker) expr(deep int) Expr {
	if deep == 0 || m.chance(3) {
		return has(m.name(), m.Intn(3))
	}
	if m.chance(3) {
		return not(m.expr(deep - 1))
	}
	return Expr{Op: []int{And, Or}[m.Intn(2)], Kids: several(m, 2, 4, func() Expr { return m.expr(deep - 1) })}
}

func (m maker) need() Need {
	if m.chance(2) {
		return Need{Name: m.word(), N: m.number()}
	}
	return Need{Name: m.word(), Mode: 1 + m.Intn(2)}
}

func (m maker) res() Res {
	if m.chance(2) {
		return Res{Name: m.word(), Units: m.number()}
	}
	return Res{Name: m.word(), Lock: true}
}

func (m maker) job() Job {
	j := plainJob(m.word())
	if m.chance(2) {
		j.Days = m.node(3)
	}
	if m.chance(2) {
		j.Shift, j.Dir, j.Work = true, m.Intn(3)-1, m.node(2)
	}
	if m.chance(2) {
		j.From, j.To = m.minutes(), m.minutes()
	}
	if m.chance(2) {
		j.In = m.expr(3)
	}
	j.Out = several(m, 0, 8, func() Outcome { return Outcome{Add: m.chance(2), Name: m.word(), When: m.Intn(3)} })
	j.Needs = several(m, 0, 6, m.need)
	for _, at := range []*int64{&j.Prio, &j.Wait, &j.Every, &j.Runs, &j.Retry} {
		if m.chance(2) {
			*at = m.number()
		}
	}
	return j
}

func (m maker) source() Source {
	x := Source{Keep: 7}
	if m.chance(2) {
		x.Begin, x.Keep = m.minutes(), m.number()
	}
	x.Cals = several(m, 0, 3, func() cal.Cal { return cal.Cal{Name: m.word(), Days: m.node(4)} })
	x.Res = several(m, 0, 4, m.res)
	x.Jobs = several(m, 0, 3, m.job)
	return x
}

// A source as words: any way to write it that says the same.

func (m maker) words(x Source) []string {
	var singles, cals, res, jobs [][]string
	if x.Begin != 0 || m.chance(2) {
		singles = append(singles, []string{"begin", clock(x.Begin), ";"})
	}
	if x.Keep != 7 || m.chance(2) {
		singles = append(singles, []string{"keep", m.digits(x.Keep), ";"})
	}
	for _, c := range x.Cals {
		cals = append(cals, closed([]string{"calendar", c.Name, "="}, m.nodeWords(c.Days, 0)))
	}
	for _, r := range x.Res {
		if r.Lock {
			res = append(res, []string{"lock", r.Name, ";"})
		} else {
			res = append(res, []string{"resource", r.Name, m.digits(r.Units), ";"})
		}
	}
	for _, j := range x.Jobs {
		jobs = append(jobs, m.jobWords(j))
	}
	return m.mixed(singles, cals, res, jobs)
}

// closed has words, those behind them, and a ";".
func closed(words, more []string) []string {
	return append(append(append([]string(nil), words...), more...), ";")
}

// mixed has all pieces, in any order that leaves each row's own.
func (m maker) mixed(rows ...[][]string) []string {
	var l []string
	for {
		left := 0
		for _, row := range rows {
			left += len(row)
		}
		if left == 0 {
			return l
		}
		i := m.Intn(len(rows))
		if len(rows[i]) > 0 {
			l = append(l, rows[i][0]...)
			rows[i] = rows[i][1:]
		}
	}
}

func (m maker) jobWords(j Job) []string {
	var rows [][][]string
	single := func(words ...string) { rows = append(rows, [][]string{words}) }
	if j.Days.Op != 0 {
		single(closed([]string{"days"}, m.nodeWords(j.Days, 0))...)
	}
	if j.Shift {
		single(closed([]string{"shift", []string{"prev", "skip", "next"}[j.Dir+1]}, m.nodeWords(j.Work, 0))...)
	}
	if j.From != 0 || j.To != 1439 || m.chance(2) {
		single("window", clock(j.From), clock(j.To), ";")
	}
	if j.In.Op != None {
		single(closed([]string{"in"}, m.exprWords(j.In, 0))...)
	}
	for i, n := range []int64{j.Prio, j.Wait, j.Every, j.Runs, j.Retry} {
		if n != []int64{0, 0, 0, 1, 0}[i] || m.chance(2) {
			single([]string{"prio", "wait", "every", "runs", "retry"}[i], m.digits(n), ";")
		}
	}
	var needs [][]string
	for _, n := range j.Needs {
		if n.Mode == 0 {
			needs = append(needs, []string{"need", n.Name, m.digits(n.N), ";"})
		} else {
			needs = append(needs, []string{"use", n.Name, []string{"shared", "exclusive"}[n.Mode-1], ";"})
		}
	}
	rows = append(rows, needs, m.outWords(j.Out))
	return append(append([]string{"job", j.Name, "{"}, m.mixed(rows...)...), "}")
}

// outWords has outcomes in one part or in several.
func (m maker) outWords(l []Outcome) [][]string {
	var parts [][]string
	for i, o := range l {
		first := i == 0 || m.chance(3)
		if first && i > 0 {
			parts[len(parts)-1] = append(parts[len(parts)-1], ";")
		}
		if first {
			parts = append(parts, []string{"out"})
		}
		at := &parts[len(parts)-1]
		if !first {
			*at = append(*at, ",")
		}
		if o.Add {
			*at = append(*at, "+")
		} else {
			*at = append(*at, "-")
		}
		*at = append(*at, m.refWords(o.Name, o.When)...)
	}
	if len(parts) > 0 {
		parts[len(parts)-1] = append(parts[len(parts)-1], ";")
	}
	return parts
}

func (m maker) refWords(name string, when int) []string {
	if when == Odat && m.chance(2) {
		return []string{name}
	}
	return []string{name, ".", []string{"odat", "prev", "any"}[when]}
}

// How tightly an operation binds: what stands in one that binds as tightly, or tighter, has brackets.
const (
	loose = iota
	inOr
	inAnd
	inNot
)

// bracketed has words in brackets where they must be, and at times where they need not.
func (m maker) bracketed(words []string, must bool) []string {
	for must || m.chance(8) {
		words = append(append([]string{"("}, words...), ")")
		must = false
	}
	return words
}

func (m maker) nodeWords(n cal.Node, around int) []string {
	switch n.Op {
	case cal.And:
		return m.bracketed(between("and", n.Kids, func(k cal.Node) []string { return m.nodeWords(k, inAnd) }), around >= inAnd)
	case cal.Or:
		return m.bracketed(between("or", n.Kids, func(k cal.Node) []string { return m.nodeWords(k, inOr) }), around >= inOr)
	case cal.Not:
		return m.bracketed(append([]string{"not"}, m.nodeWords(n.Kids[0], inNot)...), false)
	case cal.Ref:
		return m.bracketed([]string{n.Name}, false)
	}
	return m.bracketed(m.callWords(n), false)
}

func (m maker) callWords(n cal.Node) []string {
	weekdays := []string{"mon", "tue", "wed", "thu", "fri", "sat", "sun"}
	var l [][]string
	switch n.Op {
	case cal.Week:
		for _, i := range m.Perm(7) {
			if n.N[0]>>i&1 == 1 {
				l = append(l, several(m, 1, 2, func() []string { return []string{weekdays[i]} })...)
			}
		}
	case cal.Dates:
		for _, d := range n.N {
			l = append(l, []string{dateText(d)})
		}
	case cal.Month, cal.Fiscal:
		for _, k := range n.N {
			l = append(l, m.intWords(k))
		}
	case cal.Nth:
		l = [][]string{{weekdays[n.N[0]]}, m.intWords(n.N[1])}
	case cal.Work:
		l = [][]string{m.intWords(n.N[0]), {n.Name}}
	}
	name := map[int]string{cal.Week: "week", cal.Dates: "dates", cal.Month: "month", cal.Nth: "nth", cal.Work: "work", cal.Fiscal: "fiscal"}[n.Op]
	words := between(",", l, func(x []string) []string { return x })
	return append(append([]string{name, "("}, words...), ")")
}

func (m maker) exprWords(e Expr, around int) []string {
	switch e.Op {
	case And:
		return m.bracketed(between("and", e.Kids, func(k Expr) []string { return m.exprWords(k, inAnd) }), around >= inAnd)
	case Or:
		return m.bracketed(between("or", e.Kids, func(k Expr) []string { return m.exprWords(k, inOr) }), around >= inOr)
	case Not:
		return m.bracketed(append([]string{"not"}, m.exprWords(e.Kids[0], inNot)...), false)
	}
	return m.bracketed(m.refWords(e.Name, e.When), false)
}

// between has the words of all, with one between any two.
func between[T any](word string, l []T, words func(T) []string) []string {
	var all []string
	for i, x := range l {
		if i > 0 {
			all = append(all, word)
		}
		all = append(all, words(x)...)
	}
	return all
}

func (m maker) intWords(n int64) []string {
	if n < 0 {
		return []string{"-", m.digits(-n)}
	}
	return []string{m.digits(n)}
}

// digits has a number with zeros ahead of it, at times.
func (m maker) digits(n int64) string {
	s := strconv.FormatInt(n, 10)
	return strings.Repeat("0", m.Intn(2)*m.Intn(10-len(s))) + s
}

func clock(n int64) string {
	return strconv.FormatInt(100+n/60, 10)[1:] + ":" + strconv.FormatInt(100+n%60, 10)[1:]
}

// text writes a source with any blanks between, in small or great letters.
func (m maker) text(x Source) string {
	return m.spaced(m.words(x))
}

func (m maker) spaced(words []string) string {
	var b strings.Builder
	ahead := byte(' ')
	for _, w := range words {
		signs := strings.IndexByte("{}();,=+-. ", ahead) >= 0 || strings.Contains("{}();,=+-.", w)
		if !signs || m.chance(2) {
			b.WriteString([]string{" ", "\n", "  ", "\t", "\r\n", "#\n", " # it, * and 9a\n"}[m.Intn(7)])
		}
		if m.chance(6) {
			w = strings.ToUpper(w)
		}
		b.WriteString(w)
		ahead = w[len(w)-1]
	}
	return b.String()
}
