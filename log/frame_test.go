package log

import (
	"bytes"
	"hash/crc32"
	"math"
	"math/rand"
	"testing"

	"dayshift/api"
)

// frames has one frame a record, numbered from first on.
func frames(t *testing.T, first uint64, recs ...string) []byte {
	t.Helper()
	var all []byte
	for i, rec := range recs {
		b, e := Frame(first+uint64(i), []byte(rec))
		if e != api.OK {
			t.Fatal("Frame", e)
		}
		all = append(all, b...)
	}
	return all
}

// texts has records as texts.
func texts(recs [][]byte) []string {
	var l []string
	for _, r := range recs {
		l = append(l, string(r))
	}
	return l
}

func same(a, b []string) bool {
	if len(a) != len(b) {
		return false
	}
	for i := range a {
		if a[i] != b[i] {
			return false
		}
	}
	return true
}

// scans holds what Scan tells against what it must.
func scans(t *testing.T, b []byte, first uint64, size int, recs ...string) {
	t.Helper()
	n, got, at := Scan(b)
	if n != first || at != size || !same(texts(got), recs) {
		t.Errorf("Scan tells %d %q %d, not %d %q %d", n, texts(got), at, first, recs, size)
	}
}

func TestSum(t *testing.T) { // P4.1
	for text, want := range map[string]uint32{"": 0, "123456789": 0xcbf43926, "a": 0xe8b7be43, "\x00": 0xd202ef8d, "\xff\xff\xff\xff": 0xffffffff} {
		if got := Sum([]byte(text)); got != want {
			t.Errorf("Sum(%q) = %x, not %x", text, got, want)
		}
	}
	if Sum(nil) != 0 {
		t.Error("Sum of nil", Sum(nil))
	}
	r := rand.New(rand.NewSource(4))
	for n := range 600 {
		b := make([]byte, n)
		r.Read(b)
		if got, want := Sum(b), crc32.ChecksumIEEE(b); got != want {
			t.Errorf("Sum of %d bytes = %x, not %x", n, got, want)
		}
	}
	for c := range 256 {
		b := []byte{byte(c)}
		if Sum(b) != crc32.ChecksumIEEE(b) {
			t.Error("Sum of the byte", c)
		}
	}
}

func TestFrame(t *testing.T) { // P4.1
	b, e := Frame(0x0102030405060708, []byte("xyz"))
	head := []byte{0, 0, 0, 3, 0, 0, 0, 0, 1, 2, 3, 4, 5, 6, 7, 8, 'x', 'y', 'z'}
	sum := crc32.ChecksumIEEE(head[8:])
	for i := range 4 {
		head[4+i] = byte(sum >> (24 - 8*i))
	}
	if e != api.OK || !bytes.Equal(b, head) {
		t.Error("Frame", b, e)
	}
	for _, rec := range [][]byte{nil, {}} {
		if b, e := Frame(0, rec); e != api.OK || len(b) != 16 {
			t.Error("Frame of nothing", b, e)
		}
	}
	for _, seq := range []uint64{0, 1, 255, 256, math.MaxUint32, math.MaxUint32 + 1, math.MaxInt64, math.MaxUint64} {
		b, _ := Frame(seq, nil)
		var n uint64
		for _, c := range b[8:16] {
			n = n<<8 + uint64(c)
		}
		if n != seq {
			t.Error("number", seq, b)
		}
	}
}

func TestFrameSize(t *testing.T) { // P4.1
	for _, n := range []int{255, 256, 257, 59999, 60000} {
		rec := bytes.Repeat([]byte{7}, n)
		b, e := Frame(1, rec)
		if e != api.OK || len(b) != 16+n {
			t.Fatal("Frame", n, len(b), e)
		}
		scans(t, b, 1, 16+n, string(rec))
	}
	for _, n := range []int{60001, 60002, 65536, 1 << 20} {
		if b, e := Frame(1, make([]byte, n)); len(b) != 0 || e != api.ErrSize {
			t.Error("Frame", n, len(b), e)
		}
	}
}

func TestScan(t *testing.T) { // P4.1, P4.5
	scans(t, nil, 0, 0)
	scans(t, []byte{}, 0, 0)
	scans(t, make([]byte, 100), 0, 0) // a length of 0 with the sum 0 is no frame
	for _, first := range []uint64{1, 2, 7, 255, 256, math.MaxUint32, math.MaxUint64 - 2} {
		all := frames(t, first, "a", "", "ccc")
		scans(t, all, first, len(all), "a", "", "ccc")
		scans(t, append(all[:len(all):len(all)], 1, 2), first, len(all), "a", "", "ccc")
		scans(t, append(all[:len(all):len(all)], all...), first, len(all), "a", "", "ccc")
	}
}

func TestScanOfNumbers(t *testing.T) { // P4.1
	one := len(frames(t, 1, "a"))
	for _, c := range []struct {
		a, b  uint64
		first uint64
		n     int
	}{
		{1, 2, 1, 2}, {1, 1, 1, 1}, {1, 3, 1, 1}, {2, 1, 2, 1}, {0, 1, 0, 0}, {0, 0, 0, 0}, {1, 0, 1, 1},
		{math.MaxUint64 - 1, math.MaxUint64, math.MaxUint64 - 1, 2}, {math.MaxUint64, 0, math.MaxUint64, 1}, {math.MaxUint64, 1, math.MaxUint64, 1},
		{math.MaxUint32, math.MaxUint32 + 1, math.MaxUint32, 2}, {math.MaxUint32, 0, math.MaxUint32, 1}, {5, 5 + 1<<32, 5, 1},
	} {
		all := append(frames(t, c.a, "a"), frames(t, c.b, "b")...)
		scans(t, all, c.first, c.n*one, []string{"a", "b"}[:c.n]...)
	}
}

func TestScanOfTooLongRecords(t *testing.T) { // P4.1: a record has at most MaxRecord bytes
	for _, n := range []int{60000, 60001, 65536} {
		b := make([]byte, 16+n)
		put(b[:4], uint64(n))
		put(b[8:16], 1)
		put(b[4:8], uint64(crc32.ChecksumIEEE(b[8:])))
		if n <= api.MaxRecord {
			scans(t, b, 1, len(b), string(b[16:]))
		} else {
			scans(t, b, 0, 0)
		}
	}
	for _, head := range [][]byte{{0xff, 0xff, 0xff, 0xff}, {0x80, 0, 0, 0}, {0x7f, 0xff, 0xff, 0xff}, {0xff, 0xff, 0xff, 0xf0}} {
		scans(t, append(head, make([]byte, 40)...), 0, 0)
	}
}

func TestCutBytes(t *testing.T) { // P4.5
	recs := []string{"first", "", "the third one", "x"}
	all := frames(t, 9, recs...)
	for n := range len(all) {
		whole, size := 0, 0
		for whole < len(recs) && size+16+len(recs[whole]) <= n {
			size += 16 + len(recs[whole])
			whole++
		}
		first := uint64(9)
		if whole == 0 {
			first = 0
		}
		scans(t, all[:n:n], first, size, recs[:whole]...)
	}
}

func TestTurnedBits(t *testing.T) { // P4.5
	recs := []string{"first", "", "the third one", "x"}
	all := frames(t, 1, recs...)
	start := 0
	for i, rec := range recs {
		end := start + 16 + len(rec)
		for at := start + 4; at < end; at++ {
			for bit := range 8 {
				b := bytes.Clone(all)
				b[at] ^= 1 << bit
				first := uint64(1)
				if i == 0 {
					first = 0
				}
				scans(t, b, first, start, recs[:i]...)
			}
		}
		start = end
	}
}

func TestFrameMemory(t *testing.T) { // rules 4 and 5
	rec := []byte("abc")
	b, _ := Frame(1, rec)
	rec[0] = 'z'
	all := append(b, frames(t, 2, "def", "ghi")...)
	_, one, _ := Scan(all)
	_, two, _ := Scan(all)
	copy(one[0], "...")
	_ = append(one[0], '!', '!', '!')
	_ = append(one[1], '!', '!', '!')
	if !same(texts(one), []string{"...", "def", "ghi"}) || !same(texts(two), []string{"abc", "def", "ghi"}) {
		t.Error("records share memory", texts(one), texts(two))
	}
	for i := range all {
		all[i] = 0
	}
	if !same(texts(two), []string{"abc", "def", "ghi"}) {
		t.Error("records share memory with the bytes", texts(two))
	}
}
