package jdl

import "dayshift/api"

func (r *reader) cond() Expr {
	return joinedConds(Or, list(r, "or", maxParts, r.allConds))
}

func (r *reader) allConds() Expr {
	return joinedConds(And, list(r, "and", maxParts, r.eachCond))
}

// joinedConds makes one expression of several; one alone stays as it is.
func joinedConds(op int, kids []Expr) Expr {
	if len(kids) == 1 {
		return kids[0]
	}
	return Expr{Op: op, Kids: kids}
}

func (r *reader) eachCond() Expr {
	switch r.text() {
	case "not":
		return Expr{Op: Not, Kids: []Expr{deeper(r, r.eachCond)}}
	case "(":
		return bracketed(r, r.cond)
	case "and", "or":
		panic(r.fault(api.ErrSyntax))
	}
	name, when := r.ref()
	return Expr{Op: Has, Name: name, When: when}
}

func (r *reader) outcome() Outcome {
	adds := r.choice([]string{"+", "-"}) == 0
	name, when := r.ref()
	return Outcome{Add: adds, Name: name, When: when}
}

// ref reads a condition's name, any word, and of which day it is.
func (r *reader) ref() (string, int) {
	name := r.name()
	if !r.take(".") {
		return name, Odat
	}
	return name, r.choice(whenWords())
}
