package jdl

import (
	"dayshift/api"
	"dayshift/lex"
)

// fault is why a source can not be read, and where. A reader panics with it, and read catches it.
type fault struct {
	at    int
	errno api.Errno
}

// stand is what may stand once: the first word of an item, or of a part of the job with a number (from 1 on).
type stand struct {
	job  int
	word string
}

// reader goes through the words of a source.
type reader struct {
	words []lex.Token // those that are not read yet
	end   int         // the place of the source's end
	deep  int         // brackets and nots around the next word
	stood map[stand]struct{}
}

func newReader(words []lex.Token, end int) *reader {
	return &reader{words: words, end: end, stood: map[stand]struct{}{}}
}

// read reads all words, up to the first fault.
func (r *reader) read() (x Source, at int, e api.Errno) {
	defer func() {
		caught := recover()
		if caught == nil {
			return
		}
		f, ok := caught.(fault)
		if !ok {
			panic(caught) // of this program, not of the source
		}
		x, at, e = Source{}, f.at, f.errno
	}()
	return r.source(), 0, api.OK
}

// fault is one of the next word.
func (r *reader) fault(e api.Errno) fault {
	if len(r.words) == 0 {
		return fault{at: r.end, errno: e}
	}
	return fault{at: r.words[0].At, errno: e}
}

// text is the next word's; no word has that of the end.
func (r *reader) text() string {
	if len(r.words) == 0 {
		return ""
	}
	return r.words[0].Text
}

// skip passes over the next word, whatever it is.
func (r *reader) skip() {
	r.words = r.words[1:]
}

// take passes over the next word, if it is this one. A text is enough: no two kinds of words share one.
func (r *reader) take(text string) bool {
	if r.text() != text {
		return false
	}
	r.skip()
	return true
}

// must passes over the next word, which can be this one alone.
func (r *reader) must(text string) {
	if !r.take(text) {
		panic(r.fault(api.ErrSyntax))
	}
}

// word passes over the next one, which can be of one kind alone.
func (r *reader) word(kind int) lex.Token {
	if len(r.words) == 0 || r.words[0].Kind != kind {
		panic(r.fault(api.ErrSyntax))
	}
	word := r.words[0]
	r.skip()
	return word
}

func (r *reader) name() string {
	return r.word(lex.Name).Text
}

func (r *reader) number() int64 {
	return r.word(lex.Num).N
}

func (r *reader) time() int64 {
	return r.word(lex.Time).N
}

// integer reads a number that may be below 0.
func (r *reader) integer() int64 {
	if r.take("-") {
		return -r.number()
	}
	return r.number()
}

// choice reads one of some words, and tells its place among them.
func (r *reader) choice(words []string) int {
	for i, word := range words {
		if r.take(word) {
			return i
		}
	}
	panic(r.fault(api.ErrSyntax))
}

// once refuses the next word, if it stood already in this job (0: outside of jobs).
func (r *reader) once(job int) {
	key := stand{job: job, word: r.text()}
	if _, ok := r.stood[key]; ok {
		panic(r.fault(api.ErrTwice))
	}
	r.stood[key] = struct{}{}
}

// room refuses the next word, whatever it is, if there are as many as may be ahead of it.
func (r *reader) room(have, most int) {
	if have >= most {
		panic(r.fault(api.ErrFull))
	}
}

// list reads parts, one at least, with a word between any two, till there are as many as may be.
func list[T any](r *reader, between string, most int, part func() T) []T {
	var l []T
	for {
		r.room(len(l), most)
		l = append(l, part())
		if !r.take(between) {
			return l
		}
	}
}

// deeper reads a part behind a bracket or a not, which is the next word.
func deeper[T any](r *reader, part func() T) T {
	if r.deep >= api.MaxDeep {
		panic(r.fault(api.ErrDeep))
	}
	r.skip()
	r.deep++
	x := part()
	r.deep--
	return x
}

// bracketed reads a part that stands in brackets, of which the first one is the next word.
func bracketed[T any](r *reader, part func() T) T {
	x := deeper(r, part)
	r.must(")")
	return x
}
