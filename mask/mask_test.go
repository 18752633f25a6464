package mask

import (
	"math"
	"slices"
	"testing"
)

const (
	least    = math.MinInt64
	greatest = math.MaxInt64
)

// sizes are how many days a month may be said to have, beside each edge and far from it.
var sizes = []int64{least, least + 1, -31, -1, 0, 1, 2, 7, 27, 28, 29, 30, 31, 32, 33, 63, 64, 65, 1 << 32, 1<<32 + 5, greatest - 1, greatest}

// months are some of each kind: none, one day, all, rows of days, and each of these with the bit 31.
func months() []Month {
	l := []Month{0, 1<<31 - 1, 0x55555555, 0x2aaaaaaa, 0x40000001, 0x1f, 0x7c000000, 0x12345678, 0x0f0f0f0f}
	for d := range 31 {
		l = append(l, 1<<d, 1<<31-1&^(1<<d))
	}
	x := uint32(1)
	for range 300 {
		x = x*1664525 + 1013904223
		l = append(l, Month(x))
	}
	for _, m := range slices.Clone(l) {
		l = append(l, m|1<<31)
	}
	return l
}

// daysOf counts the days of a month one by one.
func daysOf(m Month) []int64 {
	var l []int64
	for d := int64(1); d <= 31; d++ {
		if m/(1<<(d-1))%2 == 1 {
			l = append(l, d)
		}
	}
	return l
}

func TestAll(t *testing.T) { // P5.1
	for _, n := range sizes {
		var want []int64
		for d := int64(1); d <= 31 && d <= n; d++ {
			want = append(want, d)
		}
		m := All(n)
		if !slices.Equal(daysOf(m), want) || m>>31 != 0 {
			t.Errorf("All(%d) = %x", n, m)
		}
	}
}

func TestWeek(t *testing.T) { // P5.1
	if got := Week(0x1f, 3, 29).List(); !slices.Equal(got, []int64{1, 2, 5, 6, 7, 8, 9, 12, 13, 14, 15, 16, 19, 20, 21, 22, 23, 26, 27, 28, 29}) {
		t.Error("February 2024", got)
	}
	firsts := []int64{0, 1, 2, 3, 4, 5, 6, 7, 8, 13, 14, -1, -2, -6, -7, -8, greatest, greatest - 1, greatest - 6, least, least + 1, least + 6}
	for _, first := range firsts {
		for _, n := range sizes {
			for bits := range 256 {
				checkWeek(t, uint8(bits), first, n)
			}
		}
	}
}

// checkWeek counts weekdays on from the first day's.
func checkWeek(t *testing.T, bits uint8, first, n int64) {
	t.Helper()
	wd := first % 7
	if wd < 0 {
		wd += 7
	}
	var want []int64
	for d := int64(1); d <= 31 && d <= n; d++ {
		if bits&(1<<wd) != 0 {
			want = append(want, d)
		}
		wd++
		if wd == 7 {
			wd = 0
		}
	}
	m := Week(bits, first, n)
	if !slices.Equal(daysOf(m), want) || m>>31 != 0 {
		t.Fatalf("Week(%x, %d, %d) = %x", bits, first, n, m)
	}
}

func TestDays(t *testing.T) { // P5.1
	known := []struct {
		l    []int64
		n    int64
		want []int64
	}{
		{nil, 31, nil}, {[]int64{}, 31, nil}, {[]int64{1, -1, 31, 0, -30, 40}, 30, []int64{1, 30}},
		{[]int64{1, 1, 1, -31}, 31, []int64{1}}, {[]int64{-1}, 28, []int64{28}}, {[]int64{-28}, 28, []int64{1}}, {[]int64{-29}, 28, nil}, {[]int64{29, 30, 31}, 28, nil}, {[]int64{29, 30, 31}, 30, []int64{29, 30}},
		{[]int64{3, 2, 1}, 2, []int64{1, 2}}, {[]int64{0}, 31, nil}, {[]int64{32, 33, 64, 65, 1 << 32, 1<<32 + 1, greatest}, 31, nil}, {[]int64{least, least + 1, least + 2}, 31, nil},
		{[]int64{1, -1, 0}, 0, nil}, {[]int64{1, -1, 0}, -1, nil}, {[]int64{1, 2, -1, -2, least, greatest}, least, nil}, {[]int64{-1, 1}, 1, []int64{1}},
		{[]int64{31, 32, -1, -2}, 32, []int64{31}}, {[]int64{-1, -34, -35, -65}, 65, []int64{1, 31}}, {[]int64{-1, -greatest, least, least + 30, least + 31}, greatest, []int64{1, 30, 31}},
	}
	for _, x := range known {
		if m := Days(x.l, x.n); !slices.Equal(daysOf(m), x.want) || m>>31 != 0 {
			t.Errorf("Days(%d, %d) = %x", x.l, x.n, m)
		}
	}
}

// TestDaysOneByOne asks for each number alone, and for the numbers all together.
func TestDaysOneByOne(t *testing.T) { // P5.1
	for n := int64(-2); n <= 40; n++ {
		var asked, all []int64
		for k := int64(-45); k <= 45; k++ {
			d := k
			if k < 0 {
				d = n + 1 + k
			}
			var want []int64
			if k != 0 && d >= 1 && d <= 31 && d <= n {
				want = []int64{d}
			}
			if m := Days([]int64{k}, n); !slices.Equal(daysOf(m), want) {
				t.Fatalf("Days(%d, %d) = %x", k, n, m)
			}
			asked, all = append(asked, k), append(all, want...)
		}
		slices.Sort(all)
		if m := Days(asked, n); !slices.Equal(daysOf(m), slices.Compact(all)) {
			t.Fatalf("Days of all, %d = %x", n, m)
		}
	}
}

func TestDaysLeavesItsListAsItIs(t *testing.T) { // P5.1, rule 4
	l := []int64{3, -1, 0, 99, 1}
	was := slices.Clone(l)
	if Days(l, 31); !slices.Equal(l, was) {
		t.Error(l)
	}
}

func TestHasCountAndList(t *testing.T) { // P5.2
	for _, m := range months() {
		want := daysOf(m)
		if m.Count() != int64(len(want)) || !slices.Equal(m.List(), want) {
			t.Fatalf("%x: Count %d, List %d", m, m.Count(), m.List())
		}
		for d := int64(-70); d <= 70; d++ {
			if m.Has(d) != slices.Contains(want, d) {
				t.Fatalf("%x: Has(%d)", m, d)
			}
		}
		for _, d := range []int64{least, least + 1, -1 << 32, 1 << 32, 1<<32 + 1, greatest - 1, greatest} {
			if m.Has(d) {
				t.Fatalf("%x: Has(%d)", m, d)
			}
		}
	}
}

func TestListIsNewMemory(t *testing.T) { // P5.2, rule 4
	m := Month(7)
	l := m.List()
	l[0] = 99
	if got := m.List(); !slices.Equal(got, []int64{1, 2, 3}) {
		t.Error(got)
	}
}

func TestNot(t *testing.T) { // P5.2, P5.4
	for _, m := range months() {
		for _, n := range sizes {
			var others, own []int64
			for d := int64(1); d <= 31 && d <= n; d++ {
				if slices.Contains(daysOf(m), d) {
					own = append(own, d)
				} else {
					others = append(others, d)
				}
			}
			not := m.Not(n)
			if !slices.Equal(daysOf(not), others) || not>>31 != 0 {
				t.Fatalf("%x: Not(%d) = %x", m, n, not)
			}
			if again := not.Not(n); !slices.Equal(daysOf(again), own) || again != m&All(n) {
				t.Fatalf("%x: Not of Not(%d) = %x", m, n, again)
			}
		}
	}
}

func TestNth(t *testing.T) { // P5.2, P5.3
	for _, m := range months() {
		l := daysOf(m)
		for k := int64(1); k <= 70; k++ {
			forth, back := int64(0), int64(0)
			if k <= int64(len(l)) {
				forth, back = l[k-1], l[int64(len(l))-k]
			}
			if m.Nth(k) != forth || m.Nth(-k) != back {
				t.Fatalf("%x: Nth(%d) = %d, from the end %d", m, k, m.Nth(k), m.Nth(-k))
			}
		}
		for _, k := range []int64{0, least, least + 1, least + 31, least + 32, -1 << 32, 1 << 32, 1<<32 + 1, greatest - 1, greatest} {
			if m.Nth(k) != 0 {
				t.Fatalf("%x: Nth(%d) = %d", m, k, m.Nth(k))
			}
		}
	}
}

func TestNextAndPrev(t *testing.T) { // P5.2
	for _, m := range months() {
		ask := []int64{least, least + 1, -1 << 32, 1 << 32, 1<<32 + 5, greatest - 1, greatest}
		for d := int64(-70); d <= 70; d++ {
			ask = append(ask, d)
		}
		for _, d := range ask {
			next, prev := int64(0), int64(0)
			for _, k := range daysOf(m) {
				if k > d && next == 0 {
					next = k
				}
				if k < d {
					prev = k
				}
			}
			if m.Next(d) != next || m.Prev(d) != prev {
				t.Fatalf("%x: Next(%d) = %d, Prev = %d", m, d, m.Next(d), m.Prev(d))
			}
		}
	}
}

func TestNextAndPrevGoThroughTheList(t *testing.T) { // P5.3
	for _, m := range months() {
		var forth, back []int64
		for d := m.Next(0); d != 0; d = m.Next(d) {
			forth = append(forth, d)
		}
		for d := m.Prev(32); d != 0; d = m.Prev(d) {
			back = append(back, d)
		}
		slices.Reverse(back)
		if !slices.Equal(forth, m.List()) || !slices.Equal(back, m.List()) {
			t.Fatalf("%x: there %d, back %d", m, forth, back)
		}
	}
}
