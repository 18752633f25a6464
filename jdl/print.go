package jdl

import (
	"strconv"
	"strings"

	"dayshift/cal"
	"dayshift/date"
	"dayshift/week"
)

func sourceLines(x Source) []string {
	l := []string{
		"begin " + timeText(x.Begin) + ";",
		"keep " + numberText(x.Keep) + ";",
	}
	for _, c := range x.Cals {
		l = append(l, "calendar "+c.Name+" = "+nodeText(c.Days)+";")
	}
	for _, res := range x.Res {
		l = append(l, resText(res)+";")
	}
	for _, j := range x.Jobs {
		l = append(l, "job "+j.Name+" {")
		for _, part := range jobParts(j) {
			l = append(l, "  "+part+";")
		}
		l = append(l, "}")
	}
	return l
}

func resText(res Res) string {
	if res.Lock {
		return "lock " + res.Name
	}
	return "resource " + res.Name + " " + numberText(res.Units)
}

func jobParts(j Job) []string {
	var l []string
	if j.Days.Op != 0 {
		l = append(l, "days "+nodeText(j.Days))
	}
	if j.Shift {
		l = append(l, "shift "+wordAt(dirWords(), int64(j.Dir)+1)+" "+nodeText(j.Work))
	}
	l = append(l, "window "+timeText(j.From)+" "+timeText(j.To))
	if j.In.Op != None {
		l = append(l, "in "+exprText(j.In))
	}
	if len(j.Out) > 0 {
		l = append(l, "out "+texts(j.Out, ", ", outText))
	}
	for _, n := range j.Needs {
		l = append(l, needText(n))
	}
	return append(l,
		"prio "+numberText(j.Prio),
		"wait "+numberText(j.Wait),
		"every "+numberText(j.Every),
		"runs "+numberText(j.Runs),
		"retry "+numberText(j.Retry),
	)
}

func needText(n Need) string {
	if n.Mode == 0 {
		return "need " + n.Name + " " + numberText(n.N)
	}
	return "use " + n.Name + " " + wordAt(modeWords(), int64(n.Mode)-1)
}

func outText(o Outcome) string {
	if o.Add {
		return "+" + refText(o.Name, o.When)
	}
	return "-" + refText(o.Name, o.When)
}

func refText(name string, when int) string {
	if when == Odat {
		return name
	}
	return name + "." + wordAt(whenWords(), int64(when))
}

func exprText(e Expr) string {
	switch e.Op {
	case And:
		return "(" + texts(e.Kids, " and ", exprText) + ")"
	case Or:
		return "(" + texts(e.Kids, " or ", exprText) + ")"
	case Not:
		return "not " + texts(e.Kids, " ", exprText)
	}
	return refText(e.Name, e.When)
}

func nodeText(n cal.Node) string {
	switch n.Op {
	case cal.Week:
		return "week(" + weekText(numberAt(n.N, 0)) + ")"
	case cal.Dates:
		return "dates(" + texts(n.N, ", ", dateText) + ")"
	case cal.Month:
		return "month(" + texts(n.N, ", ", numberText) + ")"
	case cal.Nth:
		return "nth(" + wordAt(weekdayWords(), numberAt(n.N, 0)) + ", " + numberText(numberAt(n.N, 1)) + ")"
	case cal.Work:
		return "work(" + numberText(numberAt(n.N, 0)) + ", " + n.Name + ")"
	case cal.Fiscal:
		return "fiscal(" + texts(n.N, ", ", numberText) + ")"
	case cal.And:
		return "(" + texts(n.Kids, " and ", nodeText) + ")"
	case cal.Or:
		return "(" + texts(n.Kids, " or ", nodeText) + ")"
	case cal.Not:
		return "not " + texts(n.Kids, " ", nodeText)
	}
	return n.Name
}

// weekText has the words of weekdays that are bits of a number.
func weekText(bits int64) string {
	var l []string
	for i, word := range weekdayWords() {
		if bits>>uint(i)&1 == 1 {
			l = append(l, word)
		}
	}
	return strings.Join(l, ", ")
}

// texts has the texts of all parts, with something between any two.
func texts[T any](l []T, between string, text func(T) string) string {
	var all []string
	for _, part := range l {
		all = append(all, text(part))
	}
	return strings.Join(all, between)
}

func numberText(n int64) string {
	return strconv.FormatInt(n, 10)
}

// dateText and timeText are asked for days and minutes that can be: Parse told them.

func dateText(day int64) string {
	s, _ := date.Text(day)
	return s
}

func timeText(minutes int64) string {
	s, _ := week.Text(minutes)
	return s
}

// numberAt and wordAt have nothing where a list is too short: of what Parse told it never is.

func numberAt(l []int64, i int) int64 {
	if i >= len(l) {
		return 0
	}
	return l[i]
}

func wordAt(l []string, i int64) string {
	if i < 0 || i >= int64(len(l)) {
		return ""
	}
	return l[i]
}
