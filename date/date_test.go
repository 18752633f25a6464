package date

import (
	"math"
	"testing"
	"time"

	"dayshift/api"
)

// wrongDays are beside the days that can be, and far from them.
var wrongDays = []int64{0, -1, api.MaxDay + 1, -api.MaxDay, math.MinInt64, math.MinInt64 + 1, math.MaxInt64, math.MaxInt64 - 1, math.MaxInt32, math.MinInt32}

func TestLeap(t *testing.T) { // P1.1
	leap := []int64{0, 4, 8, 96, 104, 400, 800, 1600, 1996, 2000, 2004, 2024, 2400, 9996, 10000, -4, -8, -400, -2000, math.MinInt64, math.MaxInt64 - 3}
	for _, y := range leap {
		if !Leap(y) {
			t.Error("no leap year", y)
		}
	}
	common := []int64{1, 2, 3, 5, 100, 200, 300, 500, 1700, 1900, 1999, 2001, 2100, 9900, 9999, -1, -3, -100, -300, math.MinInt64 + 1, math.MaxInt64}
	for _, y := range common {
		if Leap(y) {
			t.Error("a leap year", y)
		}
	}
}

func TestLen(t *testing.T) { // P1.1
	common := []int64{31, 28, 31, 30, 31, 30, 31, 31, 30, 31, 30, 31}
	for _, y := range []int64{1, 4, 100, 400, 1900, 2000, 2023, 2024, 9999, 0, -1, -4, -100, -400, 10000, math.MinInt64, math.MaxInt64} {
		for i, want := range common {
			if i == 1 && Leap(y) {
				want = 29
			}
			if got := Len(y, int64(i+1)); got != want {
				t.Error("Len", y, i+1, got, want)
			}
		}
		for _, m := range []int64{0, -1, 13, 14, -12, math.MinInt64, math.MaxInt64} {
			if got := Len(y, m); got != 0 {
				t.Error("Len", y, m, got)
			}
		}
	}
}

func TestRight(t *testing.T) { // P1.1
	for _, n := range []int64{1, 2, 730179, api.MaxDay - 1, api.MaxDay} {
		if !Right(n) {
			t.Error("can be", n)
		}
	}
	for _, n := range wrongDays {
		if Right(n) {
			t.Error("can not be", n)
		}
	}
}

func TestDaysThatAreKnown(t *testing.T) { // P1.2, P1.3
	known := []struct {
		y, m, d, n, wd int64
		text           string
	}{
		{1, 1, 1, 1, 0, "00010101"},
		{1, 1, 2, 2, 1, "00010102"},
		{1, 12, 31, 365, 0, "00011231"},
		{2, 1, 1, 366, 1, "00020101"},
		{4, 2, 29, 1155, 6, "00040229"},
		{4, 12, 31, 1461, 4, "00041231"},
		{100, 12, 31, 36524, 4, "01001231"},
		{101, 1, 1, 36525, 5, "01010101"},
		{400, 12, 31, 146097, 6, "04001231"},
		{401, 1, 1, 146098, 0, "04010101"},
		{1970, 1, 1, 719163, 3, "19700101"},
		{2000, 2, 29, 730179, 1, "20000229"},
		{9999, 12, 30, api.MaxDay - 1, 3, "99991230"},
		{9999, 12, 31, api.MaxDay, 4, "99991231"},
	}
	for _, x := range known {
		if n, e := Days(x.y, x.m, x.d); n != x.n || e != api.OK {
			t.Error("Days", x, n, e)
		}
		if y, m, d, e := Date(x.n); y != x.y || m != x.m || d != x.d || e != api.OK {
			t.Error("Date", x, y, m, d, e)
		}
		if wd, e := Weekday(x.n); wd != x.wd || e != api.OK {
			t.Error("Weekday", x, wd, e)
		}
		if s, e := Text(x.n); s != x.text || e != api.OK {
			t.Error("Text", x, s, e)
		}
		if n, e := Read(x.text); n != x.n || e != api.OK {
			t.Error("Read", x, n, e)
		}
	}
}

func TestDatesThatCanNotBe(t *testing.T) { // P1.2, P6
	wrong := [][3]int64{
		{0, 1, 1}, {-1, 1, 1}, {10000, 1, 1}, {0, 12, 31}, {math.MinInt64, 1, 1}, {math.MaxInt64, 1, 1},
		{2024, 0, 1}, {2024, 13, 1}, {2024, -1, 1}, {2024, math.MinInt64, 1}, {2024, math.MaxInt64, 1},
		{2024, 1, 0}, {2024, 1, -1}, {2024, 1, 32}, {2024, 4, 31}, {2024, 12, 32}, {2024, 1, math.MinInt64}, {2024, 1, math.MaxInt64},
		{2024, 2, 30}, {2023, 2, 29}, {1900, 2, 29}, {100, 2, 29}, {9900, 2, 29}, {2000, 2, 30}, {400, 2, 30}, {4, 2, 30},
		{2024, 0, 0}, {2024, 13, 0}, {0, 0, 0}, {math.MaxInt64, math.MaxInt64, math.MaxInt64}, {math.MinInt64, math.MinInt64, math.MinInt64},
	}
	for _, x := range wrong {
		if n, e := Days(x[0], x[1], x[2]); n != 0 || e != api.ErrRange {
			t.Error("Days", x, n, e)
		}
	}
}

func TestDaysThatCanNotBe(t *testing.T) { // P1.2, P1.3, P6
	for _, n := range wrongDays {
		if y, m, d, e := Date(n); y != 0 || m != 0 || d != 0 || e != api.ErrRange {
			t.Error("Date", n, y, m, d, e)
		}
		if wd, e := Weekday(n); wd != 0 || e != api.ErrRange {
			t.Error("Weekday", n, wd, e)
		}
		if s, e := Text(n); s != "" || e != api.ErrRange {
			t.Error("Text", n, s, e)
		}
	}
}

func TestReadOfTextsThatAreNone(t *testing.T) { // P1.3, P6
	wrong := []string{
		"", "2", "2000022", "200002290", "2000-02-29", " 2000229", "2000022 ", "+2000229", "-2000229",
		"2000022a", "a0000229", "2000o229", "20000\x00229", "2000022\x00", "2000022/", "2000022:", "/0000229", ":0000229",
		"99999999999999999999", "\xff\xfe\xfd\xfc\xfb\xfa\xf9\xf8", "٢٠٢٤", "２０００", "200002２", "0x123456", "1e100000",
	}
	for _, s := range wrong {
		if n, e := Read(s); n != 0 || e != api.ErrSyntax {
			t.Errorf("Read %q: %d %d", s, n, e)
		}
	}
	for at := range 8 {
		for b := range 256 {
			s := []byte("20000229")
			s[at] = byte(b)
			_, e := Read(string(s))
			if digit := b >= '0' && b <= '9'; digit != (e != api.ErrSyntax) {
				t.Errorf("Read %q: %d", s, e)
			}
		}
	}
}

func TestReadOfDatesThatCanNotBe(t *testing.T) { // P1.3, P6
	for _, s := range []string{"00000000", "00000101", "00001231", "20000001", "20000100", "20001301", "20000132", "20000431", "20010229", "19000229", "01000229", "20240230", "99991232", "99999999"} {
		if n, e := Read(s); n != 0 || e != api.ErrRange {
			t.Errorf("Read %q: %d %d", s, n, e)
		}
	}
}

// TestAllDays walks from date to date by the library's calendar: no day is left out, none comes twice.
func TestAllDays(t *testing.T) { // P1.1 to P1.4
	at := time.Date(1, 1, 1, 0, 0, 0, 0, time.UTC)
	for n := int64(1); n <= api.MaxDay; n++ {
		wy, wm, wd := int64(at.Year()), int64(at.Month()), int64(at.Day())
		if y, m, d, e := Date(n); y != wy || m != wm || d != wd || e != api.OK {
			t.Fatal("Date", n, y, m, d, e)
		}
		if back, e := Days(wy, wm, wd); back != n || e != api.OK {
			t.Fatal("Days", wy, wm, wd, back, e)
		}
		if w, e := Weekday(n); w != int64(at.Weekday()+6)%7 || e != api.OK {
			t.Fatal("Weekday", n, w, e)
		}
		text, e := Text(n)
		if want := at.AppendFormat(nil, "20060102"); text != string(want) || e != api.OK {
			t.Fatal("Text", n, text, e)
		}
		if back, e := Read(text); back != n || e != api.OK {
			t.Fatal("Read", text, back, e)
		}
		at = at.AddDate(0, 0, 1)
	}
	if at.Year() != 10000 || at.YearDay() != 1 {
		t.Error("behind MaxDay", at)
	}
}
