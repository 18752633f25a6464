package log

import (
	"bytes"
	"math"
	"slices"
	"strconv"
	"testing"

	"dayshift/api"
	"dayshift/disk"
)

// laid has a disk whose files 0 and 1 have these bytes, safe.
func laid(t *testing.T, log, snap []byte) *disk.Disk {
	t.Helper()
	d := disk.New()
	for f, b := range [][]byte{log, snap} {
		if d.Append(f, b) != api.OK || d.Sync(f) != api.OK {
			t.Fatal("Append")
		}
	}
	return d
}

// file has the bytes of a disk's file.
func file(t *testing.T, d *disk.Disk, f int) []byte {
	t.Helper()
	b, e := d.Read(f)
	if e != api.OK {
		t.Fatal("Read", e)
	}
	return b
}

// opens holds what Open tells against what it must, and answers the log.
func opens(t *testing.T, d *disk.Disk, next uint64, snap string, recs ...string) *Log {
	t.Helper()
	l, s, got, e := Open(d)
	if e != api.OK || l == nil {
		t.Fatal("Open", e)
	}
	if string(s) != snap || !same(texts(got), recs) {
		t.Errorf("Open tells %.40q %.40q, not %.40q %.40q", s, texts(got), snap, recs)
	}
	if l.Next() != next || l.Size() != len(recs) {
		t.Errorf("Open has Next %d, Size %d, not %d, %d", l.Next(), l.Size(), next, len(recs))
	}
	return l
}

// fails asks for an Open that answers an error, and nothing else.
func fails(t *testing.T, d *disk.Disk, want api.Errno) {
	t.Helper()
	if l, s, recs, e := Open(d); e != want || l != nil || len(s) != 0 || len(recs) != 0 {
		t.Error("Open", l, s, recs, e, "not", want)
	}
}

func TestOpen(t *testing.T) { // P4.2
	fails(t, nil, api.ErrNil)
	opens(t, disk.New(), 1, "")
	none := uint64(math.MaxUint64)
	for _, c := range []struct {
		log, snap []byte
		next      uint64
		text      string
		recs      []string
	}{
		{frames(t, 1, "a", "b"), nil, 3, "", []string{"a", "b"}},
		{nil, frames(t, 0, "s"), 1, "s", nil},
		{frames(t, 1, "a"), frames(t, 0, "s"), 2, "s", []string{"a"}},
		{frames(t, 1, "a", "b", "c"), frames(t, 2, "s"), 4, "s", []string{"c"}},
		{frames(t, 1, "a", "b", "c"), frames(t, 3, "s"), 4, "s", nil},
		{frames(t, 1, "a", "b", "c"), frames(t, 9, "s"), 10, "s", nil},
		{frames(t, 3, "a", "b", "c"), frames(t, 2, ""), 6, "", []string{"a", "b", "c"}},
		{frames(t, 3, "a", "b", "c"), frames(t, 3, "s"), 6, "s", []string{"b", "c"}},
		{frames(t, none-1, "a", "b"), frames(t, none-2, "s"), 0, "s", []string{"a", "b"}},
		{frames(t, none-1, "a", "b"), frames(t, none, "s"), 0, "s", nil},
		{frames(t, 1, "a"), frames(t, none, "s"), 0, "s", nil},
		{nil, frames(t, none-1, "s"), none, "s", nil},
	} {
		d := laid(t, c.log, c.snap)
		opens(t, d, c.next, c.text, c.recs...)
		opens(t, d, c.next, c.text, c.recs...)
		if !bytes.Equal(file(t, d, 0), c.log) || !bytes.Equal(file(t, d, 1), c.snap) {
			t.Error("Open has changed whole files")
		}
	}
}

func TestOpenOfWrongBytes(t *testing.T) { // P4.2
	whole := frames(t, 2, "snap")
	for n := 1; n < len(whole); n++ {
		fails(t, laid(t, nil, whole[:n]), api.ErrForm)
	}
	for i := range whole {
		turned := bytes.Clone(whole)
		turned[i] ^= 4
		fails(t, laid(t, nil, turned), api.ErrForm)
	}
	fails(t, laid(t, nil, append(bytes.Clone(whole), 0)), api.ErrForm)
	fails(t, laid(t, nil, frames(t, 2, "snap", "more")), api.ErrForm)
	for _, c := range [][2]uint64{{2, 0}, {3, 1}, {4, 2}, {100, 2}, {math.MaxUint64, 2}, {math.MaxUint64, math.MaxUint64 - 2}} {
		fails(t, laid(t, frames(t, c[0], "a"), frames(t, c[1], "s")), api.ErrForm)
	}
	fails(t, laid(t, frames(t, 2, "a"), nil), api.ErrForm) // the snapshot's number is 0
	long := make([]byte, 16+api.MaxRecord+1)
	put(long[:4], api.MaxRecord+1)
	put(long[4:8], uint64(Sum(long[8:])))
	fails(t, laid(t, nil, long), api.ErrForm)
	torn := laid(t, append(frames(t, 5, "a"), 1, 2, 3), frames(t, 2, "s"))
	torn.Fail(1)
	fails(t, torn, api.ErrForm) // refused ahead of any call
	if torn.Dead() {
		t.Error("a refused Open has called the disk")
	}
}

func TestOpenTakesTheTornEndAway(t *testing.T) { // P4.2
	kept := frames(t, 1, "a", "b", "c")
	for _, tail := range [][]byte{{1}, make([]byte, 16), frames(t, 5, "e"), frames(t, 4, "long")[:19]} {
		base := laid(t, append(bytes.Clone(kept), tail...), frames(t, 2, "s"))
		if base.Append(2, []byte("left over")) != api.OK {
			t.Fatal("Append")
		}
		d := base.Copy()
		d.Fail(5)
		l := opens(t, d, 4, "s", "c")
		if !bytes.Equal(file(t, d, 0), kept) || d.Safe(0) != len(kept) || len(file(t, d, 2)) != 0 {
			t.Error("the file 0 has", file(t, d, 0))
		}
		if d.Sync(7) != api.ErrDead { // the fifth call, and no other one
			t.Error("Open has not made four calls")
		}
		d.Crash(nil)
		l = opens(t, d, 4, "s", "c")
		if l.Append([]byte("d")) != api.OK {
			t.Error("Append")
		}
		opens(t, d, 5, "s", "c", "d")
		for n := 1; n <= 4; n++ {
			d := base.Copy()
			d.Fail(n)
			fails(t, d, api.ErrDead)
			two := [][]byte{[]byte("left over"), kept, kept, kept}[n-1]
			safe := []int{0, 0, 0, len(kept)}[n-1]
			if !bytes.Equal(file(t, d, 2), two) || d.Safe(2) != safe || len(file(t, d, 0)) != len(kept)+len(tail) {
				t.Error("the failing call", n, file(t, d, 2), d.Safe(2))
			}
			fails(t, d, api.ErrDead)
		}
	}
	torn := laid(t, []byte("no frame at all"), nil)
	opens(t, torn, 1, "")
	if len(file(t, torn, 0)) != 0 {
		t.Error("the file 0 has", file(t, torn, 0))
	}
}

func TestOpenOfADeadDisk(t *testing.T) { // P4.2: reading is no call that fails
	d := laid(t, frames(t, 1, "a"), nil)
	d.Fail(1)
	d.Sync(7)
	l := opens(t, d, 2, "", "a")
	if e := l.Append(nil); e != api.ErrDead {
		t.Error("Append", e)
	}
}

func TestAppend(t *testing.T) { // P4.3
	d := disk.New()
	l := opens(t, d, 1, "")
	recs := []string{"a", "", "\x00\xff", string(make([]byte, api.MaxRecord))}
	for i, rec := range recs {
		if e := l.Append([]byte(rec)); e != api.OK || l.Next() != uint64(i+2) || l.Size() != i+1 {
			t.Error("Append", i, e, l.Next(), l.Size())
		}
		whole := frames(t, 1, recs[:i+1]...)
		if !bytes.Equal(file(t, d, 0), whole) || d.Safe(0) != len(whole) {
			t.Error("the file 0 has other bytes")
		}
	}
	if e := l.Append(nil); e != api.OK {
		t.Error("Append of nil", e)
	}
	opens(t, d, 6, "", append(recs, "")...)
}

func TestAppendCalls(t *testing.T) { // P4.3
	for n := 1; n <= 3; n++ {
		d := disk.New()
		l := opens(t, d, 1, "")
		d.Fail(n)
		e := l.Append([]byte("a"))
		if n == 3 {
			if e != api.OK || d.Sync(7) != api.ErrDead {
				t.Error("Append has not made two calls", e)
			}
			continue
		}
		if e != api.ErrDead || l.Next() != 1 || l.Size() != 0 {
			t.Error("Append", n, e, l.Next(), l.Size())
		}
		if !bytes.Equal(file(t, d, 0), frames(t, 1, "a")) || d.Safe(0) != 0 {
			t.Error("the file 0 has", file(t, d, 0), d.Safe(0))
		}
	}
}

func TestInstall(t *testing.T) { // P4.3
	d := disk.New()
	l := opens(t, d, 1, "")
	if e := l.Install([]byte("zero")); e != api.OK || l.Next() != 1 || l.Size() != 0 {
		t.Error("Install", e, l.Next(), l.Size())
	}
	if !bytes.Equal(file(t, d, 1), frames(t, 0, "zero")) {
		t.Error("the file 1 has", file(t, d, 1))
	}
	l = opens(t, d, 1, "zero")
	if l.Append([]byte("a")) != api.OK || l.Append([]byte("b")) != api.OK || l.Size() != 2 {
		t.Error("Append")
	}
	if e := l.Install([]byte("s")); e != api.OK || l.Next() != 3 || l.Size() != 0 {
		t.Error("Install", e, l.Next(), l.Size())
	}
	if !bytes.Equal(file(t, d, 1), frames(t, 2, "s")) || d.Safe(1) != 17 || len(file(t, d, 0)) != 0 || len(file(t, d, 3)) != 0 {
		t.Error("the files have", file(t, d, 0), file(t, d, 1), file(t, d, 3))
	}
	opens(t, d, 3, "s")
	if l.Append([]byte("c")) != api.OK || l.Size() != 1 {
		t.Error("Append")
	}
	opens(t, d, 4, "s", "c")
	most := bytes.Repeat([]byte{9}, api.MaxRecord)
	if l.Install(most) != api.OK {
		t.Error("Install")
	}
	l = opens(t, d, 4, string(most))
	if e := l.Install(nil); e != api.OK {
		t.Error("Install of nil", e)
	}
	opens(t, d, 4, "")
}

func TestInstallCalls(t *testing.T) { // P4.3
	base := laid(t, frames(t, 1, "a", "b"), nil)
	if base.Append(3, []byte("left over")) != api.OK {
		t.Fatal("Append")
	}
	old, frame := frames(t, 1, "a", "b"), frames(t, 2, "s")
	for n := 1; n <= 6; n++ {
		d := base.Copy()
		l := opens(t, d, 3, "", "a", "b")
		d.Fail(n)
		e := l.Install([]byte("s"))
		if n == 6 {
			if e != api.OK || d.Sync(7) != api.ErrDead {
				t.Error("Install has not made five calls", e)
			}
			continue
		}
		if e != api.ErrDead || l.Next() != 3 || l.Size() != 2 {
			t.Error("Install", n, e, l.Next(), l.Size())
		}
		three := [][]byte{[]byte("left over"), frame, frame, frame, nil}[n-1]
		one := [][]byte{nil, nil, nil, nil, frame}[n-1]
		safe := []int{0, 0, 0, len(frame), 0}[n-1]
		if !bytes.Equal(file(t, d, 3), three) || d.Safe(3) != safe || !bytes.Equal(file(t, d, 1), one) || !bytes.Equal(file(t, d, 0), old) {
			t.Error("the failing call", n, file(t, d, 0), file(t, d, 1), file(t, d, 3), d.Safe(3))
		}
	}
}

func TestErrSize(t *testing.T) { // P4.3
	d := disk.New()
	l := opens(t, d, 1, "")
	for _, n := range []int{api.MaxRecord + 1, api.MaxRecord + 2, 1 << 20} {
		if e := l.Append(make([]byte, n)); e != api.ErrSize {
			t.Error("Append", n, e)
		}
		if e := l.Install(make([]byte, n)); e != api.ErrSize {
			t.Error("Install", n, e)
		}
	}
	if l.Next() != 1 || l.Size() != 0 || len(file(t, d, 0)) != 0 || len(file(t, d, 1)) != 0 {
		t.Error("a refused call has changed something")
	}
	if l.Append([]byte("a")) != api.OK || l.Install([]byte("s")) != api.OK || l.Append([]byte("b")) != api.OK {
		t.Error("ErrSize has broken the log")
	}
	opens(t, d, 3, "s", "b")
}

func TestErrState(t *testing.T) { // P4.3
	tooLong := make([]byte, api.MaxRecord+1)
	for n := 1; n <= 5; n++ {
		for _, install := range []bool{false, true} {
			d := disk.New()
			l := opens(t, d, 1, "")
			d.Fail(n)
			e := api.OK
			if install {
				e = l.Install([]byte("s"))
			} else {
				e = l.Append([]byte("a"))
			}
			if e == api.OK { // an Append makes two calls
				continue
			}
			d.Crash(nil) // the disk is right again, the log is not
			for range 2 {
				if l.Append(nil) != api.ErrState || l.Install(nil) != api.ErrState || l.Append(tooLong) != api.ErrState || l.Install(tooLong) != api.ErrState {
					t.Error("no ErrState", n, install)
				}
			}
			if _, _, _, e := Open(d); e != api.OK {
				t.Error("Open", e)
			}
		}
	}
}

func TestErrFull(t *testing.T) { // P4.3
	d := disk.New()
	l := opens(t, d, 1, "")
	rec := make([]byte, api.MaxRecord)
	n := 0
	for l.Append(rec) == api.OK {
		n++
	}
	if n != 1<<20/(16+api.MaxRecord) || d.Dead() {
		t.Error("so many records", n)
	}
	if l.Append(nil) != api.ErrState || l.Install(nil) != api.ErrState || l.Size() != n {
		t.Error("no ErrState")
	}
	l, _, recs, e := Open(d)
	if e != api.OK || len(recs) != n {
		t.Fatal("Open", len(recs), e)
	}
	if e := l.Append(rec); e != api.ErrFull {
		t.Error("Append", e)
	}
	l, _, _, _ = Open(d)
	if l.Install([]byte("s")) != api.OK || l.Append(rec) != api.OK {
		t.Error("Install has made no room")
	}
	opens(t, d, uint64(n+2), "s", string(rec))
}

func TestLastNumbers(t *testing.T) { // P4.3
	none := uint64(math.MaxUint64)
	d := laid(t, nil, frames(t, none-1, "s"))
	l := opens(t, d, none, "s")
	if l.Append([]byte("a")) != api.OK || l.Next() != 0 {
		t.Error("Append", l.Next())
	}
	l = opens(t, d, 0, "s", "a")
	if l.Install([]byte("z")) != api.OK || l.Next() != 0 {
		t.Error("Install", l.Next())
	}
	opens(t, d, 0, "z")
	if !bytes.Equal(file(t, d, 1), frames(t, none, "z")) {
		t.Error("the file 1 has", file(t, d, 1))
	}
}

func TestNil(t *testing.T) { // P4.3
	var l *Log
	for _, b := range [][]byte{nil, []byte("a"), make([]byte, api.MaxRecord+1)} {
		if l.Append(b) != api.ErrNil || l.Install(b) != api.ErrNil {
			t.Error("of nil", l.Append(b), l.Install(b))
		}
	}
	if l.Next() != 0 || l.Size() != 0 {
		t.Error("of nil", l.Next(), l.Size())
	}
}

func TestMemory(t *testing.T) { // rules 4 and 5
	d := disk.New()
	l := opens(t, d, 1, "")
	snap, rec := []byte("snap"), []byte("rec")
	if l.Install(snap) != api.OK || l.Append(rec) != api.OK || l.Append(rec) != api.OK {
		t.Fatal("Append")
	}
	snap[0], rec[0] = 'z', 'z'
	_, s, recs, _ := Open(d)
	s[0], recs[0][0] = '.', '.'
	_, _ = append(s, '!'), append(recs[0], '!')
	if string(recs[1]) != "rec" {
		t.Error("records share memory", texts(recs))
	}
	opens(t, d, 3, "snap", "rec", "rec")
}

// told is what a log must tell: a snapshot, and records.
type told struct {
	snap string
	recs []string
}

// script is what the crash test does: texts that begin with "!" are snapshots.
var script = []string{"a", "", "!one", "b", "cc", "!two", "!", "ddd", "e", "f", "!three", "g"}

func (s told) after(op string) told {
	if op != "" && op[0] == '!' {
		return told{snap: op[1:]}
	}
	return told{s.snap, append(slices.Clone(s.recs), op)}
}

func (s told) is(snap []byte, recs [][]byte) bool {
	return s.snap == string(snap) && same(s.recs, texts(recs))
}

// do takes one step of a script.
func do(l *Log, op string) api.Errno {
	if op != "" && op[0] == '!' {
		return l.Install([]byte(op[1:]))
	}
	return l.Append([]byte(op))
}

// keeps has ways in which bytes may stay: none, some of one file or another, all.
func keeps() [][]int {
	l := [][]int{nil, {99, 99, 99, 99}, {0, 99, 0, 99}, {99, 0, 99, 0}, {-1, 3, 5, 7}}
	for n := range 24 {
		l = append(l, []int{n, n, 24 - n, 24 - n})
	}
	return l
}

// crashed plays the script with its n-th call failing, and answers the disk, what was said to be there, what was under way, and whether a call failed.
func crashed(t *testing.T, n int) (*disk.Disk, told, told, bool) {
	t.Helper()
	d := disk.New()
	l := opens(t, d, 1, "")
	d.Fail(n)
	var said told
	for _, op := range script {
		next := said.after(op)
		if e := do(l, op); e != api.OK {
			return d, said, next, true
		}
		said = next
	}
	return d, said, said, false
}

func TestNothingIsLost(t *testing.T) { // P4.4
	n := 1
	for ; ; n++ {
		d, said, next, failed := crashed(t, n)
		for _, keep := range keeps() {
			one := d.Copy()
			one.Crash(keep)
			reopens(t, one, said, next, "call "+strconv.Itoa(n))
		}
		if !failed {
			break
		}
	}
	if want := 8*2 + 4*5 + 1; n != want {
		t.Error("the script has", n-1, "calls, not", want-1)
	}
}

// reopens opens a disk, whatever call of that fails too, and goes on with what it tells.
func reopens(t *testing.T, d *disk.Disk, said, next told, where string) {
	t.Helper()
	for n := 1; n <= 5; n++ {
		for _, keep := range [][]int{nil, {99, 99, 99, 99}, {5, 5, 5, 5}, {0, 0, 17, 0}} {
			one := d.Copy()
			one.Fail(n)
			if _, _, _, e := Open(one); e != api.OK && e != api.ErrDead {
				t.Fatal(where, "Open", e)
			}
			one.Crash(keep)
			tells(t, one, said, next, where)
		}
	}
	tells(t, d, said, next, where)
}

// tells asks that Open tells one of two things, the same each time, and that the log goes on from there.
func tells(t *testing.T, d *disk.Disk, said, next told, where string) {
	t.Helper()
	_, snap, recs, e := Open(d)
	if e != api.OK || !said.is(snap, recs) && !next.is(snap, recs) {
		t.Fatalf("%s: Open tells %q %q, error %d: neither %q nor %q", where, snap, texts(recs), e, said, next)
	}
	was := told{string(snap), texts(recs)}
	d.Crash(nil)
	l, snap, recs, e := Open(d)
	if e != api.OK || !was.is(snap, recs) {
		t.Fatalf("%s: opened again it tells %q %q, error %d: not %q", where, snap, texts(recs), e, was)
	}
	if l.Append([]byte("more")) != api.OK {
		t.Fatal(where, "Append")
	}
	d.Crash(nil)
	_, snap, recs, e = Open(d)
	if e != api.OK || !was.after("more").is(snap, recs) {
		t.Fatalf("%s: behind a record more it tells %q %q, error %d", where, snap, texts(recs), e)
	}
}
