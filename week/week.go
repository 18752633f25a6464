// Package week is layer 2: weeks, months, and times of a day. See shared/doc/02-week.md.
package week

import (
	"dayshift/api"
	"dayshift/date"
)

const (
	weekDays = 7
	thursday = 3
	maxWeeks = 53 // of a year
	hourMin  = 60
	maxNth   = 5 // of one weekday in a month
)

var digits = [10]byte{'0', '1', '2', '3', '4', '5', '6', '7', '8', '9'}

// Week tells the year and the number of a day's week: those of its Thursday.
func Week(n int64) (int64, int64, api.Errno) {
	wd, e := date.Weekday(n)
	if e != api.OK {
		return 0, 0, e
	}
	// It can be: the day 1 is a Monday, and MaxDay stands behind the Thursday of its week.
	th := n - wd + thursday
	y, _, _, e := date.Date(th)
	if e != api.OK {
		return 0, 0, e
	}
	begin, e := date.Days(y, 1, 1)
	if e != api.OK {
		return 0, 0, e
	}
	return y, thursdays(begin, th), api.OK
}

// thursdays counts the Thursdays from the day begin of a year up to its Thursday th.
func thursdays(begin, th int64) int64 {
	count := int64(0)
	for range maxWeeks {
		if th < begin {
			break
		}
		th -= weekDays
		count++
	}
	return count
}

// Nth tells the k-th day of a month that is the weekday wd, from its end, if k is below 0.
func Nth(y, m, wd, k int64) (int64, api.Errno) {
	begin, e := date.Days(y, m, 1)
	if e != api.OK {
		return 0, e
	}
	if wd < 0 || wd >= weekDays || k == 0 || k < -maxNth || k > maxNth {
		return 0, api.ErrArg
	}
	first, e := date.Weekday(begin)
	if e != api.OK {
		return 0, e
	}
	size := date.Len(y, m)
	ahead := (wd - first + weekDays) % weekDays
	if k > 0 {
		ahead += (k - 1) * weekDays
	} else {
		count := (size-1-ahead)/weekDays + 1
		ahead += (count + k) * weekDays
	}
	if ahead < 0 || ahead >= size {
		return 0, api.ErrNone
	}
	return begin + ahead, api.OK
}

// First tells the first day of a day's month.
func First(n int64) (int64, api.Errno) {
	_, _, d, e := date.Date(n)
	if e != api.OK {
		return 0, e
	}
	return n - d + 1, api.OK
}

// Last tells the last day of a day's month.
func Last(n int64) (int64, api.Errno) {
	y, m, d, e := date.Date(n)
	if e != api.OK {
		return 0, e
	}
	return n - d + date.Len(y, m), api.OK
}

// Split tells the day of a clock, and the minutes of it.
func Split(clock int64) (int64, int64, api.Errno) {
	day := clock / api.DayMin
	if !date.Right(day) {
		return 0, 0, api.ErrRange
	}
	return day, clock % api.DayMin, api.OK
}

// Join tells the clock of a day, and minutes of it.
func Join(day, min int64) (int64, api.Errno) {
	if !date.Right(day) || !isMinutes(min) {
		return 0, api.ErrRange
	}
	return day*api.DayMin + min, api.OK
}

// Order tells the day that a clock counts to, if days begin at some minutes.
func Order(clock, begins int64) (int64, api.Errno) {
	day, minutes, e := Split(clock)
	if e != api.OK {
		return 0, e
	}
	if !isMinutes(begins) {
		return 0, api.ErrRange
	}
	if minutes >= begins {
		return day, api.OK
	}
	if !date.Right(day - 1) {
		return 0, api.ErrRange
	}
	return day - 1, api.OK
}

// Text tells minutes of a day as two digits of hours, ":", and two of minutes.
func Text(min int64) (string, api.Errno) {
	if !isMinutes(min) {
		return "", api.ErrRange
	}
	h, m := min/hourMin, min%hourMin
	text := [5]byte{digits[h/10], digits[h%10], ':', digits[m/10], digits[m%10]}
	return string(text[:]), api.OK
}

// Read tells the minutes of a day that a text says.
func Read(s string) (int64, api.Errno) {
	if len(s) != 5 || s[2] != ':' {
		return 0, api.ErrSyntax
	}
	h, hoursRight := twoDigits(s[:2])
	m, minutesRight := twoDigits(s[3:])
	if !hoursRight || !minutesRight {
		return 0, api.ErrSyntax
	}
	if h > 23 || m > 59 {
		return 0, api.ErrRange
	}
	return h*hourMin + m, api.OK
}

// twoDigits tells the number that a text of two bytes says, and whether it says one.
func twoDigits(s string) (int64, bool) {
	n := int64(0)
	for i := range len(s) {
		if s[i] < '0' || s[i] > '9' {
			return 0, false
		}
		n = n*10 + int64(s[i]-'0')
	}
	return n, true
}

func isMinutes(min int64) bool {
	return min >= 0 && min < api.DayMin
}
