package book

import (
	"dayshift/cal"
	"dayshift/jdl"
)

// copied makes a list of its own, nil of an empty one, as the source's are.
func copied[T any](l []T) []T {
	if len(l) == 0 {
		return nil
	}
	more := make([]T, len(l))
	copy(more, l)
	return more
}

// copiedJob makes a job that shares no list with the book's.
func copiedJob(j jdl.Job) jdl.Job {
	j.Days, j.Work = copiedNode(j.Days), copiedNode(j.Work)
	j.In = copiedExpr(j.In)
	j.Out, j.Needs = copied(j.Out), copied(j.Needs)
	return j
}

func copiedNode(n cal.Node) cal.Node {
	n.N, n.Kids = copied(n.N), copied(n.Kids)
	for i, kid := range n.Kids {
		n.Kids[i] = copiedNode(kid)
	}
	return n
}

func copiedExpr(e jdl.Expr) jdl.Expr {
	e.Kids = copied(e.Kids)
	for i, kid := range e.Kids {
		e.Kids[i] = copiedExpr(kid)
	}
	return e
}
