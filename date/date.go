// Package date is layer 1: days of the calendar. See shared/doc/01-date.md.
package date

import "dayshift/api"

const (
	maxYear = 9999

	// Of spans that begin with the year 1, or behind another such span: the last year of a century is a leap year in every fourth century alone.
	daysOf4   = 4*365 + 1
	daysOf100 = 25*daysOf4 - 1
	daysOf400 = 4*daysOf100 + 1
)

// lengths is of a year that is no leap year.
var lengths = [12]int64{31, 28, 31, 30, 31, 30, 31, 31, 30, 31, 30, 31}

// Leap tells whether the year y, of any kind, has 366 days.
func Leap(y int64) bool {
	return y%4 == 0 && y%100 != 0 || y%400 == 0
}

// Len tells how many days the month m of the year y has; 0, if there is no such month.
func Len(y, m int64) int64 {
	if m < 1 || m > int64(len(lengths)) {
		return 0
	}
	if m == 2 && Leap(y) {
		return lengths[1] + 1
	}
	return lengths[m-1]
}

// Days tells the day of a date; January 1 of the year 1 is 1.
func Days(y, m, d int64) (int64, api.Errno) {
	if y < 1 || y > maxYear || d < 1 || d > Len(y, m) {
		return 0, api.ErrRange
	}
	n := aheadOfYear(y) + d
	for i := range m - 1 {
		n += Len(y, i+1)
	}
	return n, api.OK
}

// Date tells the year, the month and the day of the month of a day.
func Date(n int64) (int64, int64, int64, api.Errno) {
	if !Right(n) {
		return 0, 0, 0, api.ErrRange
	}
	y, left := yearOf(n)
	m := int64(1)
	for range len(lengths) - 1 {
		size := Len(y, m)
		if left < size {
			break
		}
		left -= size
		m++
	}
	return y, m, left + 1, api.OK
}

// Weekday tells the weekday of a day, from 0 (Monday) to 6 (Sunday).
func Weekday(n int64) (int64, api.Errno) {
	if !Right(n) {
		return 0, api.ErrRange
	}
	return (n - 1) % 7, api.OK
}

// Text tells a day as eight digits: its year, month and day of the month.
func Text(n int64) (string, api.Errno) {
	y, m, d, e := Date(n)
	if e != api.OK {
		return "", e
	}
	left := y*10000 + m*100 + d
	var text [8]byte
	for i := range len(text) {
		text[len(text)-1-i] = byte('0' + left%10)
		left /= 10
	}
	return string(text[:]), api.OK
}

// Read tells the day that eight digits say.
func Read(s string) (int64, api.Errno) {
	if len(s) != 8 {
		return 0, api.ErrSyntax
	}
	all := int64(0)
	for i := range len(s) {
		if s[i] < '0' || s[i] > '9' {
			return 0, api.ErrSyntax
		}
		all = all*10 + int64(s[i]-'0')
	}
	return Days(all/10000, all/100%100, all%100)
}

// Right tells whether a day can be.
func Right(n int64) bool {
	return n >= 1 && n <= api.MaxDay
}

// aheadOfYear tells how many days lie ahead of January 1 of a year from 1 on.
func aheadOfYear(y int64) int64 {
	whole := y - 1
	return whole*365 + whole/4 - whole/100 + whole/400
}

// yearOf tells the year of a day that can be, and how many days of that year lie ahead of it.
func yearOf(n int64) (int64, int64) {
	left := n - 1
	y := 1 + left/daysOf400*400
	left %= daysOf400
	// The last of four centuries is a day longer than the others: its last day is in no fifth one.
	centuries := min(left/daysOf100, 3)
	y += centuries * 100
	left -= centuries * daysOf100
	y += left / daysOf4 * 4
	left %= daysOf4
	for range 3 {
		size := yearLen(y)
		if left < size {
			break
		}
		left -= size
		y++
	}
	return y, left
}

func yearLen(y int64) int64 {
	if Leap(y) {
		return 366
	}
	return 365
}
