package disk

import (
	"math"
	"math/rand"
	"testing"

	"dayshift/api"
)

// wrongFiles are no file's numbers.
var wrongFiles = []int{-1, Files, Files + 1, -Files, math.MinInt, math.MaxInt, math.MinInt32, math.MaxInt32}

// want holds one file against what it must have.
func want(t *testing.T, d *Disk, f int, bytes string, safe int) {
	t.Helper()
	b, e := d.Read(f)
	if string(b) != bytes || e != api.OK {
		t.Errorf("file %d has %.40q (%d bytes), error %d, not %.40q", f, b, len(b), e, bytes)
	}
	if got := d.Safe(f); got != safe {
		t.Errorf("file %d has %d safe bytes, not %d", f, got, safe)
	}
}

// must is for calls that a test leans on.
func must(t *testing.T, errs ...api.Errno) {
	t.Helper()
	for i, e := range errs {
		if e != api.OK {
			t.Fatal("call", i, "has the error", e)
		}
	}
}

// filled has "ab" safe and "cd" behind it in the file 0, and "xyz" safe in the file 1.
func filled(t *testing.T) *Disk {
	t.Helper()
	d := New()
	must(t, d.Append(0, []byte("ab")), d.Sync(0), d.Append(0, []byte("cd")), d.Append(1, []byte("xyz")), d.Sync(1))
	return d
}

func TestNew(t *testing.T) { // P3.1
	d := New()
	for f := range Files {
		want(t, d, f, "", 0)
	}
	if Files != 8 || d.Dead() {
		t.Error("Files", Files, "dead", d.Dead())
	}
	must(t, d.Append(0, []byte("x")))
	want(t, New(), 0, "", 0)
}

func TestCalls(t *testing.T) { // P3.1
	d := New()
	for f := range Files {
		must(t, d.Append(f, []byte{byte(f), 0, 255}))
		want(t, d, f, string([]byte{byte(f), 0, 255}), 0)
		must(t, d.Append(f, nil), d.Append(f, []byte{}))
		must(t, d.Sync(f), d.Append(f, []byte("more")))
		want(t, d, f, string([]byte{byte(f), 0, 255})+"more", 3)
		must(t, d.Sync(f), d.Sync(f))
		want(t, d, f, string([]byte{byte(f), 0, 255})+"more", 7)
	}
	must(t, d.Clear(3), d.Clear(3))
	for f := range Files {
		if f != 3 {
			want(t, d, f, string([]byte{byte(f), 0, 255})+"more", 7)
		}
	}
	want(t, d, 3, "", 0)
	must(t, d.Sync(3), d.Append(3, []byte("z")))
	want(t, d, 3, "z", 0)
}

func TestRename(t *testing.T) { // P3.1, P3.5
	for from := range Files {
		for to := range Files {
			d := New()
			must(t, d.Append(from, []byte("ab")), d.Sync(from), d.Append(from, []byte("cd")))
			if to != from {
				must(t, d.Append(to, []byte("old")), d.Sync(to))
			}
			must(t, d.Rename(from, to))
			want(t, d, to, "abcd", 2)
			if from != to {
				want(t, d, from, "", 0)
				must(t, d.Append(from, []byte("next")), d.Append(to, []byte("e")))
				want(t, d, from, "next", 0)
				want(t, d, to, "abcde", 2)
			}
		}
	}
	d := filled(t)
	must(t, d.Rename(5, 1)) // an empty one takes a place too
	want(t, d, 1, "", 0)
}

func TestErrorsInOrder(t *testing.T) { // P3.1, P6
	var none *Disk
	for _, f := range append([]int{0, 7}, wrongFiles...) {
		for i, e := range []api.Errno{none.Append(f, nil), none.Append(f, make([]byte, maxFile+1)), none.Sync(f), none.Rename(f, f), none.Clear(f)} {
			if e != api.ErrNil {
				t.Error("of nil", i, e)
			}
		}
	}
	alive, dead := filled(t), filled(t)
	dead.Fail(1)
	if e := dead.Clear(7); e != api.ErrDead {
		t.Fatal("Clear", e)
	}
	huge := make([]byte, maxFile+1)
	for _, d := range []*Disk{alive, dead} {
		for _, f := range wrongFiles {
			for i, e := range []api.Errno{d.Append(f, nil), d.Append(f, huge), d.Sync(f), d.Clear(f), d.Rename(f, 0), d.Rename(0, f), d.Rename(f, f)} {
				if e != api.ErrArg {
					t.Error("of the file", f, i, e)
				}
			}
		}
	}
	for i, e := range []api.Errno{dead.Append(0, nil), dead.Append(0, huge), dead.Sync(0), dead.Clear(0), dead.Rename(1, 0), dead.Rename(0, 0)} {
		if e != api.ErrDead {
			t.Error("of a dead one", i, e)
		}
	}
	for _, d := range []*Disk{alive, dead} { // what is refused changes nothing
		want(t, d, 0, "abcd", 2)
		want(t, d, 1, "xyz", 3)
	}
}

func TestFull(t *testing.T) { // P3.1
	d := New()
	all := make([]byte, maxFile)
	if e := d.Append(0, make([]byte, maxFile+1)); e != api.ErrFull {
		t.Error("Append", e)
	}
	want(t, d, 0, "", 0)
	must(t, d.Append(0, all))
	want(t, d, 0, string(all), 0)
	must(t, d.Append(0, nil), d.Append(1, all[:maxFile-1]), d.Append(1, []byte("z")))
	for f := range 2 {
		if e := d.Append(f, []byte("z")); e != api.ErrFull {
			t.Error("Append", e)
		}
		if b, _ := d.Read(f); len(b) != maxFile {
			t.Error("Read", len(b))
		}
	}
	d.Fail(1)
	for range 3 { // it does not count
		if e := d.Append(0, []byte("z")); e != api.ErrFull || d.Dead() {
			t.Error("Append", e)
		}
	}
	if e := d.Sync(0); e != api.ErrDead {
		t.Error("Sync", e)
	}
}

func TestFailingCalls(t *testing.T) { // P3.1, P3.2, P3.5
	calls := []struct {
		call        func(d *Disk) api.Errno
		bytes, next string
		safe        int
	}{
		{func(d *Disk) api.Errno { return d.Append(0, []byte("ef")) }, "abcdef", "xyz", 2},
		{func(d *Disk) api.Errno { return d.Sync(0) }, "abcd", "xyz", 2},
		{func(d *Disk) api.Errno { return d.Rename(1, 0) }, "abcd", "xyz", 2},
		{func(d *Disk) api.Errno { return d.Rename(0, 0) }, "abcd", "xyz", 2},
		{func(d *Disk) api.Errno { return d.Clear(0) }, "abcd", "xyz", 2},
	}
	for i, c := range calls {
		for n := 1; n < 5; n++ {
			d := filled(t)
			d.Fail(n)
			for range n - 1 {
				must(t, d.Append(7, []byte("7")))
			}
			if d.Dead() {
				t.Error("dead too early", i, n)
			}
			if e := c.call(d); e != api.ErrDead || !d.Dead() {
				t.Error("it does not fail", i, n, e)
			}
			want(t, d, 0, c.bytes, c.safe)
			want(t, d, 1, c.next, 3)
			if e := c.call(d); e != api.ErrDead {
				t.Error("of a dead one", i, e)
			}
			want(t, d, 0, c.bytes, c.safe)
		}
	}
}

func TestEachCallCountsOnce(t *testing.T) { // P3.2
	calls := []func(d *Disk) api.Errno{
		func(d *Disk) api.Errno { return d.Append(0, nil) },
		func(d *Disk) api.Errno { return d.Sync(0) },
		func(d *Disk) api.Errno { return d.Rename(0, 1) },
		func(d *Disk) api.Errno { return d.Rename(2, 2) },
		func(d *Disk) api.Errno { return d.Clear(0) },
	}
	for n := 1; n <= len(calls); n++ {
		d := New()
		d.Fail(n)
		for i, call := range calls[:n] {
			for _, f := range wrongFiles { // these do not count
				if d.Append(f, nil) != api.ErrArg || d.Sync(f) != api.ErrArg || d.Rename(f, 0) != api.ErrArg || d.Rename(0, f) != api.ErrArg || d.Clear(f) != api.ErrArg {
					t.Error("no ErrArg", f)
				}
			}
			d.Read(0)
			d.Safe(0)
			d.Dead()
			d.Copy().Clear(0)
			e := call(d)
			if fails := i == n-1; (e == api.ErrDead) != fails || d.Dead() != fails {
				t.Error("the call", i, "of", n, e, d.Dead())
			}
		}
	}
}

func TestFailIsSetAnew(t *testing.T) { // P3.2
	for _, n := range []int{0, -1, math.MinInt, math.MinInt32} {
		d := New()
		d.Fail(2)
		must(t, d.Sync(0))
		d.Fail(n)
		for range 9 {
			must(t, d.Sync(0), d.Clear(0))
		}
	}
	d := New()
	d.Fail(1)
	d.Fail(3)
	must(t, d.Sync(0), d.Sync(0))
	if e := d.Sync(0); e != api.ErrDead {
		t.Error("Sync", e)
	}
	d = New()
	d.Fail(math.MaxInt)
	must(t, d.Sync(0), d.Clear(0))
	d.Fail(1)
	d.Crash(nil)
	must(t, d.Sync(0), d.Sync(0))
	d.Fail(1)
	if d.Dead() {
		t.Error("dead ahead of its call")
	}
	d.Sync(0)
	d.Fail(1) // of a dead one: gone behind the crash
	d.Crash(nil)
	must(t, d.Sync(0), d.Sync(0))
}

func TestReadAndSafe(t *testing.T) { // P3.2
	d := filled(t)
	for _, f := range wrongFiles {
		if b, e := d.Read(f); len(b) != 0 || e != api.ErrArg {
			t.Error("Read", f, b, e)
		}
		if n := d.Safe(f); n != 0 {
			t.Error("Safe", f, n)
		}
	}
	d.Fail(1)
	d.Sync(0)
	want(t, d, 0, "abcd", 2)
	want(t, d, 1, "xyz", 3)
	if b, e := d.Read(-1); len(b) != 0 || e != api.ErrArg {
		t.Error("Read of a dead one", b, e)
	}
}

func TestNil(t *testing.T) { // P3.3
	var d *Disk
	if b, e := d.Read(0); len(b) != 0 || e != api.ErrNil {
		t.Error("Read", b, e)
	}
	if b, e := d.Read(-1); len(b) != 0 || e != api.ErrNil {
		t.Error("Read", b, e)
	}
	if d.Safe(0) != 0 || d.Safe(-1) != 0 || d.Dead() || d.Copy() != nil {
		t.Error("of nil", d.Safe(0), d.Dead(), d.Copy())
	}
	d.Fail(1)
	d.Crash(nil)
	d.Crash([]int{1})
}

func TestCrash(t *testing.T) { // P3.3, P3.4
	for _, c := range []struct {
		keep  []int
		bytes string
	}{
		{nil, "ab"}, {[]int{}, "ab"}, {[]int{0}, "ab"}, {[]int{-1}, "ab"}, {[]int{math.MinInt}, "ab"},
		{[]int{1}, "abc"}, {[]int{2}, "abcd"}, {[]int{3}, "abcd"}, {[]int{math.MaxInt}, "abcd"}, {[]int{math.MaxInt - 1}, "abcd"},
	} {
		for _, dead := range []bool{false, true} {
			d := filled(t)
			if dead {
				d.Fail(1)
				d.Sync(0)
			} else {
				d.Fail(2)
			}
			d.Crash(c.keep)
			want(t, d, 0, c.bytes, len(c.bytes))
			want(t, d, 1, "xyz", 3)
			if d.Dead() {
				t.Error("dead behind a crash")
			}
			must(t, d.Append(0, []byte("-")), d.Append(0, []byte("-")), d.Append(0, []byte("-")))
			want(t, d, 0, c.bytes+"---", len(c.bytes))
			d.Crash([]int{1, 9, 9, 9, 9, 9, 9, 9, 9, 9, 9})
			want(t, d, 0, c.bytes+"-", len(c.bytes)+1)
		}
	}
}

func TestCrashOfEachFile(t *testing.T) { // P3.3
	d := New()
	keep := make([]int, Files)
	for f := range Files {
		must(t, d.Append(f, []byte("safe")), d.Sync(f), d.Append(f, []byte("01234567")))
		keep[f] = f
	}
	other, short := d.Copy(), d.Copy()
	d.Crash(keep)
	other.Crash(append(keep, 5, 5, 5))
	short.Crash(keep[:4])
	for f := range Files {
		whole := "safe" + "01234567"[:f]
		want(t, d, f, whole, 4+f)
		want(t, other, f, whole, 4+f)
		if f >= 4 {
			whole = "safe"
		}
		want(t, short, f, whole, len(whole))
		if keep[f] != f {
			t.Error("the list was changed", keep)
		}
	}
}

func TestCopy(t *testing.T) { // P3.3
	d := filled(t)
	d.Fail(2)
	other := d.Copy()
	must(t, d.Append(0, []byte("left")), other.Append(0, []byte("else")))
	want(t, d, 0, "abcdleft", 2)
	want(t, other, 0, "abcdelse", 2)
	if d.Sync(0) != api.ErrDead || other.Dead() { // the one's death is not the other's
		t.Error("Sync", d.Dead(), other.Dead())
	}
	if other.Sync(0) != api.ErrDead || !other.Dead() { // the call that fails is copied
		t.Error("Sync", other.Dead())
	}
	third := other.Copy()
	if !third.Dead() || third.Clear(0) != api.ErrDead {
		t.Error("a dead one's copy is not dead")
	}
	other.Crash([]int{1})
	want(t, other, 0, "abc", 3)
	want(t, third, 0, "abcdelse", 2)
	want(t, d, 0, "abcdleft", 2)
}

func TestMemory(t *testing.T) { // rules 4 and 5
	d := New()
	b := append(make([]byte, 0, 64), "abcd"...)
	must(t, d.Append(0, b), d.Append(1, b))
	copy(b, "....")
	want(t, d, 0, "abcd", 0)
	one, _ := d.Read(0)
	copy(one, "----")
	_ = append(one, "!!!!"...)
	want(t, d, 0, "abcd", 0)
	must(t, d.Append(0, []byte("efgh")))
	want(t, d, 0, "abcdefgh", 0)
	two, _ := d.Read(0)
	d.Crash([]int{2})
	must(t, d.Append(0, []byte("zz")))
	want(t, d, 0, "abzz", 2)
	must(t, d.Rename(0, 2), d.Append(0, []byte("9")), d.Append(2, []byte("8")))
	want(t, d, 0, "9", 0)
	want(t, d, 2, "abzz8", 2)
	if string(two) != "abcdefgh" {
		t.Error("an answer was changed", string(two))
	}
}

// model is what a disk must be: texts, and no memory that could be shared.
type model struct {
	text [Files]string
	safe [Files]int
	fail int
	dead bool
}

func (m *model) call(kind, f, to int, b string) api.Errno {
	wrong := f < 0 || f >= Files || kind == 2 && (to < 0 || to >= Files)
	if wrong {
		return api.ErrArg
	}
	if m.dead {
		return api.ErrDead
	}
	if kind == 0 && len(m.text[f])+len(b) > 1048576 {
		return api.ErrFull
	}
	m.fail--
	m.dead = m.fail == 0
	switch {
	case kind == 0:
		m.text[f] += b
	case m.dead:
	case kind == 1:
		m.safe[f] = len(m.text[f])
	case kind == 2 && f != to:
		m.text[to], m.safe[to] = m.text[f], m.safe[f]
		m.text[f], m.safe[f] = "", 0
	case kind == 3:
		m.text[f], m.safe[f] = "", 0
	}
	if m.dead {
		return api.ErrDead
	}
	return api.OK
}

func (m *model) crash(keep []int) {
	for f := range Files {
		n := m.safe[f]
		for i := 0; f < len(keep) && i < keep[f] && n < len(m.text[f]); i++ {
			n++
		}
		m.text[f], m.safe[f] = m.text[f][:n], n
	}
	m.fail, m.dead = 0, false
}

func TestAgainstModel(t *testing.T) { // P3.1 to P3.5
	r := rand.New(rand.NewSource(3))
	for range 150 {
		d, m := New(), &model{}
		for range 120 {
			step(t, r, d, m)
			if r.Intn(40) == 0 {
				d = d.Copy()
			}
		}
	}
}

func step(t *testing.T, r *rand.Rand, d *Disk, m *model) {
	t.Helper()
	f, to := r.Intn(Files+2)-1, r.Intn(Files+2)-1
	b := make([]byte, r.Intn(6))
	if r.Intn(50) == 0 {
		b = make([]byte, r.Intn(1<<20))
	}
	r.Read(b)
	var got, asked api.Errno
	switch kind := r.Intn(12); {
	case kind < 5:
		got, asked = d.Append(f, b), m.call(0, f, 0, string(b))
	case kind < 7:
		got, asked = d.Sync(f), m.call(1, f, 0, "")
	case kind < 9:
		got, asked = d.Rename(f, to), m.call(2, f, to, "")
	case kind < 10:
		got, asked = d.Clear(f), m.call(3, f, 0, "")
	case kind < 11:
		n := r.Intn(12) - 2
		d.Fail(n)
		m.fail = max(n, 0)
	default:
		keep := make([]int, r.Intn(Files+2))
		for i := range keep {
			keep[i] = r.Intn(8) - 2
		}
		d.Crash(keep)
		m.crash(keep)
	}
	if got != asked || d.Dead() != m.dead {
		t.Fatal("error", got, "not", asked, "dead", d.Dead(), m.dead)
	}
	for f := range Files {
		want(t, d, f, m.text[f], m.safe[f])
	}
}
