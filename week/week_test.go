package week

import (
	"math"
	"testing"
	"time"

	"dayshift/api"
	"dayshift/date"
)

var wrongDays = []int64{0, -1, api.MaxDay + 1, -api.MaxDay, math.MinInt64, math.MinInt64 + 1, math.MaxInt64, math.MaxInt64 - 1}

var wrongMinutes = []int64{-1, 1440, 1441, -1440, math.MinInt64, math.MaxInt64, math.MaxInt32, math.MinInt32}

var wrongClocks = []int64{0, -1, 1, 1439, -1440, -1441, -api.MaxClock, api.MaxClock + 1, api.MaxClock + 1440, math.MinInt64, math.MinInt64 + 1, math.MaxInt64}

// day tells the day of a date that can be.
func day(t *testing.T, y, m, d int64) int64 {
	t.Helper()
	n, e := date.Days(y, m, d)
	if e != api.OK {
		t.Fatal("no date", y, m, d)
	}
	return n
}

func TestWeek(t *testing.T) { // P2.1
	known := [][5]int64{
		{2018, 12, 31, 2019, 1},
		{1, 1, 1, 1, 1}, {1, 1, 7, 1, 1}, {1, 1, 8, 1, 2},
		{9999, 12, 26, 9999, 51}, {9999, 12, 27, 9999, 52}, {9999, 12, 28, 9999, 52}, {9999, 12, 29, 9999, 52}, {9999, 12, 30, 9999, 52}, {9999, 12, 31, 9999, 52},
		{2021, 1, 1, 2020, 53}, {2021, 1, 3, 2020, 53}, {2021, 1, 4, 2021, 1},
		{2020, 12, 31, 2020, 53}, {2020, 1, 1, 2020, 1}, {2019, 12, 29, 2019, 52}, {2019, 12, 30, 2020, 1},
		{2022, 1, 2, 2021, 52}, {2023, 1, 1, 2022, 52}, {2024, 12, 30, 2025, 1}, {2000, 1, 2, 1999, 52}, {2000, 1, 3, 2000, 1},
		{4, 12, 31, 4, 53}, {5, 1, 2, 4, 53}, {5, 1, 3, 5, 1},
	}
	for _, x := range known {
		if y, w, e := Week(day(t, x[0], x[1], x[2])); y != x[3] || w != x[4] || e != api.OK {
			t.Error("Week", x, y, w, e)
		}
	}
}

func TestFirstAndLast(t *testing.T) { // P2.1
	for _, x := range [][4]int64{{1, 1, 1, 31}, {1, 1, 31, 31}, {2024, 2, 1, 29}, {2024, 2, 29, 29}, {2023, 2, 14, 28}, {1900, 2, 28, 28}, {2000, 2, 29, 29}, {2024, 4, 30, 30}, {9999, 12, 1, 31}, {9999, 12, 31, 31}} {
		n := day(t, x[0], x[1], x[2])
		if got, e := First(n); got != day(t, x[0], x[1], 1) || e != api.OK {
			t.Error("First", x, got, e)
		}
		if got, e := Last(n); got != day(t, x[0], x[1], x[3]) || e != api.OK {
			t.Error("Last", x, got, e)
		}
	}
}

func TestDaysThatCanNotBe(t *testing.T) { // P2.1, P6
	for _, n := range wrongDays {
		if y, w, e := Week(n); y != 0 || w != 0 || e != api.ErrRange {
			t.Error("Week", n, y, w, e)
		}
		if got, e := First(n); got != 0 || e != api.ErrRange {
			t.Error("First", n, got, e)
		}
		if got, e := Last(n); got != 0 || e != api.ErrRange {
			t.Error("Last", n, got, e)
		}
	}
}

// TestAllWeeks holds every day against the library's calendar, whose weeks are of the same kind.
func TestAllWeeks(t *testing.T) { // P2.1
	at := time.Date(1, 1, 1, 0, 0, 0, 0, time.UTC)
	for n := int64(1); n <= api.MaxDay; n++ {
		wantYear, wantWeek := at.ISOWeek()
		if y, w, e := Week(n); y != int64(wantYear) || w != int64(wantWeek) || e != api.OK {
			t.Fatal("Week", n, y, w, e)
		}
		begin := n - int64(at.Day()) + 1
		if got, e := First(n); got != begin || e != api.OK {
			t.Fatal("First", n, got, e)
		}
		size := int64(time.Date(at.Year(), at.Month()+1, 0, 0, 0, 0, 0, time.UTC).Day())
		if got, e := Last(n); got != begin+size-1 || e != api.OK {
			t.Fatal("Last", n, got, e)
		}
		at = at.AddDate(0, 0, 1)
	}
}

func TestNth(t *testing.T) { // P2.2
	known := [][5]int64{ // the year, the month, the weekday, k, the day of the month
		{2024, 2, 3, -1, 29}, {2024, 2, 3, 5, 29}, {2024, 2, 3, 1, 1}, {2024, 2, 3, -5, 1}, {2024, 2, 0, 1, 5}, {2024, 2, 0, -1, 26}, {2024, 2, 6, 4, 25},
		{2024, 9, 6, -5, 1}, {2024, 9, 6, 1, 1}, {2024, 9, 0, 5, 30}, {2024, 9, 0, -1, 30},
		{1, 1, 0, 1, 1}, {1, 1, 0, -5, 1}, {1, 1, 2, 5, 31}, {1, 1, 6, 1, 7}, {9999, 12, 4, -1, 31}, {9999, 12, 4, 5, 31}, {9999, 12, 5, -1, 25},
	}
	for _, x := range known {
		if n, e := Nth(x[0], x[1], x[2], x[3]); n != day(t, x[0], x[1], x[4]) || e != api.OK {
			t.Error("Nth", x, n, e)
		}
	}
	for _, x := range [][4]int64{{2024, 2, 0, 5}, {2024, 2, 0, -5}, {2024, 2, 2, 5}, {2024, 2, 4, -5}, {2023, 2, 2, 5}, {2023, 2, 2, -5}, {1, 1, 3, 5}, {1, 1, 6, -5}, {9999, 12, 5, 5}, {9999, 12, 1, -5}} {
		if n, e := Nth(x[0], x[1], x[2], x[3]); n != 0 || e != api.ErrNone {
			t.Error("Nth", x, n, e)
		}
	}
}

func TestNthOfWrongArguments(t *testing.T) { // P2.2, P6
	for _, x := range [][4]int64{
		{0, 1, 0, 1}, {-1, 1, 0, 1}, {10000, 1, 0, 1}, {math.MinInt64, 1, 0, 1}, {math.MaxInt64, 1, 0, 1},
		{2024, 0, 0, 1}, {2024, 13, 0, 1}, {2024, -1, 0, 1}, {2024, math.MinInt64, 0, 1}, {2024, math.MaxInt64, 0, 1},
		{0, 1, 7, 0}, {2024, 13, -1, 6}, {10000, 2, 9, 9}, // the range is named ahead of the arguments
		{math.MinInt64, math.MinInt64, math.MinInt64, math.MinInt64}, {math.MaxInt64, math.MaxInt64, math.MaxInt64, math.MaxInt64},
	} {
		if n, e := Nth(x[0], x[1], x[2], x[3]); n != 0 || e != api.ErrRange {
			t.Error("Nth", x, n, e)
		}
	}
	for _, x := range [][2]int64{{-1, 1}, {7, 1}, {7, 5}, {math.MinInt64, 1}, {math.MaxInt64, -1}, {0, 0}, {0, 6}, {0, -6}, {6, 0}, {0, math.MinInt64}, {0, math.MaxInt64}, {-1, 0}, {math.MaxInt64, math.MinInt64}} {
		if n, e := Nth(2024, 2, x[0], x[1]); n != 0 || e != api.ErrArg {
			t.Error("Nth", x, n, e)
		}
	}
}

// TestNthOfAllMonths goes through each month day by day and counts its weekdays itself.
func TestNthOfAllMonths(t *testing.T) { // P2.2
	for y := int64(1); y <= 9999; y++ {
		for m := int64(1); m <= 12; m++ {
			var found [7][]int64
			begin := day(t, y, m, 1)
			for n := begin; n < begin+date.Len(y, m); n++ {
				wd, _ := date.Weekday(n)
				found[wd] = append(found[wd], n)
			}
			for wd, l := range found {
				checkNth(t, y, m, int64(wd), l)
			}
		}
	}
}

// checkNth holds all that Nth tells of a weekday of a month against the list of its days.
func checkNth(t *testing.T, y, m, wd int64, l []int64) {
	t.Helper()
	for k := int64(1); k <= 5; k++ {
		forth, back, want := int64(0), int64(0), api.ErrNone
		if k <= int64(len(l)) {
			forth, back, want = l[k-1], l[int64(len(l))-k], api.OK
		}
		if n, e := Nth(y, m, wd, k); n != forth || e != want {
			t.Fatal("Nth", y, m, wd, k, n, e)
		}
		if n, e := Nth(y, m, wd, -k); n != back || e != want {
			t.Fatal("Nth", y, m, wd, -k, n, e)
		}
	}
}

func TestSplitAndJoin(t *testing.T) { // P2.3, P2.5
	for _, x := range [][3]int64{{1, 0, 1440}, {1, 1, 1441}, {1, 1439, 2879}, {2, 0, 2880}, {5, 239, 7439}, {api.MaxDay, 0, api.MaxClock - 1439}, {api.MaxDay, 1439, api.MaxClock}, {api.MaxDay, 1439, 5258966399}} {
		if d, m, e := Split(x[2]); d != x[0] || m != x[1] || e != api.OK {
			t.Error("Split", x, d, m, e)
		}
		if c, e := Join(x[0], x[1]); c != x[2] || e != api.OK {
			t.Error("Join", x, c, e)
		}
	}
	for n := int64(1); n <= api.MaxDay; n += 997 {
		for min := int64(0); min < 1440; min += 7 {
			c, e := Join(n, min)
			if e != api.OK {
				t.Fatal("Join", n, min, e)
			}
			if d, m, e := Split(c); d != n || m != min || e != api.OK {
				t.Fatal("Split", c, d, m, e)
			}
		}
	}
}

func TestSplitAndJoinOfWhatCanNotBe(t *testing.T) { // P2.3, P6
	for _, c := range wrongClocks {
		if d, m, e := Split(c); d != 0 || m != 0 || e != api.ErrRange {
			t.Error("Split", c, d, m, e)
		}
	}
	for _, n := range wrongDays {
		for _, min := range []int64{0, 1439, -1, 1440, math.MinInt64, math.MaxInt64} {
			if c, e := Join(n, min); c != 0 || e != api.ErrRange {
				t.Error("Join", n, min, c, e)
			}
		}
	}
	for _, min := range wrongMinutes {
		for _, n := range []int64{1, 5, api.MaxDay} {
			if c, e := Join(n, min); c != 0 || e != api.ErrRange {
				t.Error("Join", n, min, c, e)
			}
		}
	}
}

func TestOrder(t *testing.T) { // P2.3
	known := [][4]int64{ // the day, its minutes, when days begin, the order day
		{5, 239, 240, 4}, {5, 240, 240, 5}, {5, 241, 240, 5}, {5, 0, 240, 4}, {5, 0, 0, 5}, {5, 1439, 1439, 5}, {5, 1438, 1439, 4}, {5, 0, 1, 4}, {5, 1, 1, 5},
		{1, 0, 0, 1}, {1, 240, 240, 1}, {1, 1439, 1439, 1}, {2, 0, 1439, 1}, {api.MaxDay, 1439, 0, api.MaxDay}, {api.MaxDay, 1439, 1439, api.MaxDay}, {api.MaxDay, 0, 1, api.MaxDay - 1},
	}
	for _, x := range known {
		if d, e := Order(x[0]*1440+x[1], x[2]); d != x[3] || e != api.OK {
			t.Error("Order", x, d, e)
		}
	}
}

func TestOrderOfWhatCanNotBe(t *testing.T) { // P2.3, P6
	for _, x := range [][2]int64{{1440, 1}, {1440, 1439}, {1440 + 239, 240}, {2*1440 - 2, 1439}} {
		if d, e := Order(x[0], x[1]); d != 0 || e != api.ErrRange {
			t.Error("Order", x, d, e)
		}
	}
	for _, c := range wrongClocks {
		for _, begins := range []int64{0, 240, 1439, -1, 1440, math.MinInt64, math.MaxInt64} {
			if d, e := Order(c, begins); d != 0 || e != api.ErrRange {
				t.Error("Order", c, begins, d, e)
			}
		}
	}
	for _, begins := range wrongMinutes {
		for _, c := range []int64{1440, 5 * 1440, api.MaxClock} {
			if d, e := Order(c, begins); d != 0 || e != api.ErrRange {
				t.Error("Order", c, begins, d, e)
			}
		}
	}
}

func TestOrderRisesWithTheClock(t *testing.T) { // P2.6
	for _, begins := range []int64{0, 1, 240, 720, 1439} {
		for _, n := range []int64{2, 59, 730179, api.MaxDay - 3} {
			counted := map[int64]int64{}
			last := int64(0)
			for c := n * 1440; c < (n+4)*1440; c++ {
				d, e := Order(c, begins)
				if e != api.OK || d < last {
					t.Fatal("Order", c, begins, d, e)
				}
				counted[d]++
				last = d
			}
			for d := n; d < n+3; d++ {
				if counted[d] != 1440 {
					t.Error("minutes of a day", d, begins, counted[d])
				}
			}
		}
	}
}

func TestTextAndRead(t *testing.T) { // P2.4, P2.5
	for min, want := range map[int64]string{0: "00:00", 1: "00:01", 59: "00:59", 60: "01:00", 61: "01:01", 600: "10:00", 754: "12:34", 1199: "19:59", 1200: "20:00", 1438: "23:58", 1439: "23:59"} {
		if s, e := Text(min); s != want || e != api.OK {
			t.Error("Text", min, s, e)
		}
		if m, e := Read(want); m != min || e != api.OK {
			t.Error("Read", want, m, e)
		}
	}
	read := 0
	for a := range 10000 {
		s := string([]byte{byte('0' + a/1000), byte('0' + a/100%10), ':', byte('0' + a/10%10), byte('0' + a%10)})
		m, e := Read(s)
		if a/100 > 23 || a%100 > 59 {
			if m != 0 || e != api.ErrRange {
				t.Error("Read", s, m, e)
			}
			continue
		}
		read++
		if back, et := Text(m); m != int64(a/100*60+a%100) || e != api.OK || back != s || et != api.OK {
			t.Error("Read", s, m, e, back, et)
		}
	}
	if read != 1440 {
		t.Error("minutes that were read", read)
	}
}

func TestTextOfNoMinutes(t *testing.T) { // P2.4, P6
	for _, min := range wrongMinutes {
		if s, e := Text(min); s != "" || e != api.ErrRange {
			t.Error("Text", min, s, e)
		}
	}
}

func TestReadOfTextsThatAreNone(t *testing.T) { // P2.4, P6
	wrong := []string{
		"", ":", "1", "1:00", "01:0", "001:00", "01:000", "0100", "01000", "01:00 ", " 01:00", " 1:00", "01: 0", "+1:00", "-1:00", "01:-1", "01.00", "01;00", "0:100", "010:0", ":0100", "0100:",
		"aa:bb", "a1:00", "1a:00", "01:a0", "01:0a", "24:6a", "x9:99", "99:9x", "/0:00", "0/:00", "00:/0", "00:0/", ":0:00", "0::00", "00::0", "00:0:", "00:00:00",
		"\xff\xff:\xff\xff", "\x00\x00:\x00\x00", "２:0", "00:２", "99999999999999999999:0",
	}
	for _, s := range wrong {
		if m, e := Read(s); m != 0 || e != api.ErrSyntax {
			t.Errorf("Read %q: %d %d", s, m, e)
		}
	}
	for at := range 5 {
		for b := range 256 {
			s := []byte("00:00")
			s[at] = byte(b)
			right := b >= '0' && b <= '9'
			if at == 2 {
				right = b == ':'
			}
			if _, e := Read(string(s)); right != (e != api.ErrSyntax) {
				t.Errorf("Read %q: %d", s, e)
			}
		}
	}
}
