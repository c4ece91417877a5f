package date

import (
	"strings"

	"lantern/api"
	"lantern/text"
)

const (
	lastHour   = 23
	lastMinute = 59
	lastSecond = 59

	maxFraction = 9 // digits of a second

	turningYear = 50 // the first of two digits that is in the 1900s
)

// Forms of what is read, turned to small letters: a nought stands for any digit, all else for itself.
const (
	anyDigit = '0'

	dayForm   = "0000-00-00t"
	timeForm  = "00:00:00"
	zoneBegin = len(dayForm) + len(timeForm) // or a fraction's
)

var dayNames = [...]string{"mon", "tue", "wed", "thu", "fri", "sat", "sun"}

var monthNames = [...]string{"jan", "feb", "mar", "apr", "may", "jun", "jul", "aug", "sep", "oct", "nov", "dec"}

// Rfc3339 reads a time.
func Rfc3339(s string) (int64, api.Errno) {
	low := text.Lower(s)
	if len(low) < zoneBegin || !fits(low[:zoneBegin], dayForm+timeForm) {
		return 0, api.ErrText
	}
	ahead, ok := zone3339(withoutFraction(low[zoneBegin:]))
	if !ok {
		return 0, api.ErrText
	}
	return timeOf(number(low[:4]), number(low[5:7]), number(low[8:10]), low[len(dayForm):zoneBegin], ahead)
}

// Rfc822 reads a time.
func Rfc822(s string) (int64, api.Errno) {
	words := text.Words(text.Lower(s))
	if len(words) > 0 && isDayName(words[0]) {
		words = words[1:]
	}
	if len(words) != 5 {
		return 0, api.ErrText
	}
	day, month, year, clock := words[0], words[1], words[2], words[3]
	if !fits(day, "0", "00") || !fits(year, "00", "0000") || !fits(clock, "00:00", timeForm) {
		return 0, api.ErrText
	}
	ahead, ok := zone822(words[4])
	if !ok {
		return 0, api.ErrText
	}
	if len(clock) < len(timeForm) {
		clock += ":00"
	}
	return timeOf(fullYear(year), monthOf(month), number(day), clock, ahead)
}

// Any reads a time, by the one or the other.
func Any(s string) (int64, api.Errno) {
	trimmed := text.Trim(s)
	if t, e := Rfc3339(trimmed); e == api.OK {
		return t, e
	}
	return Rfc822(trimmed)
}

// timeOf is the time when a clock that is so many seconds ahead of UTC shows that date and time of day.
func timeOf(year, month, day int, clock string, ahead int) (int64, api.Errno) {
	days, e := Days(year, month, day)
	hour, minute, second := number(clock[:2]), number(clock[3:5]), number(clock[6:])
	if e != api.OK || hour > lastHour || minute > lastMinute || second > lastSecond {
		return 0, api.ErrText
	}
	rest := hour*hourSeconds + minute*minuteSeconds + second - ahead
	return int64(days)*daySeconds + int64(rest), api.OK
}

// withoutFraction is what stands behind a second's fraction, if there is one.
// One that may not be is left, in part or whole: no zone begins like it.
func withoutFraction(s string) string {
	digits, found := strings.CutPrefix(s, ".")
	if !found {
		return s
	}
	n := 0
	for n < len(digits) && n < maxFraction && isDigit(digits[n]) {
		n++
	}
	if n == 0 {
		return s
	}
	return digits[n:]
}

// zone3339 is how many seconds a zone is ahead of UTC.
func zone3339(zone string) (int, bool) {
	if zone == "z" {
		return 0, true
	}
	return offset(zone, "+00:00", "-00:00")
}

// zone822 is how many seconds a zone is ahead of UTC.
func zone822(zone string) (int, bool) {
	switch zone {
	case "ut", "utc", "gmt", "z":
		return 0, true
	case "edt":
		return -4 * hourSeconds, true
	case "est", "cdt":
		return -5 * hourSeconds, true
	case "cst", "mdt":
		return -6 * hourSeconds, true
	case "mst", "pdt":
		return -7 * hourSeconds, true
	case "pst":
		return -8 * hourSeconds, true
	}
	return offset(zone, "+0000", "-0000")
}

// offset is how many seconds a zone of a sign, hours and minutes is ahead of UTC.
func offset(zone string, forms ...string) (int, bool) {
	if !fits(zone, forms...) {
		return 0, false
	}
	hours, minutes := number(zone[1:3]), number(zone[len(zone)-2:])
	if hours > lastHour || minutes > lastMinute {
		return 0, false
	}
	ahead := hours*hourSeconds + minutes*minuteSeconds
	if zone[0] == '-' {
		ahead = -ahead
	}
	return ahead, true
}

// isDayName tells whether a word is the name of a day and a comma.
func isDayName(word string) bool {
	for _, name := range dayNames {
		if word == name+"," {
			return true
		}
	}
	return false
}

// monthOf is the month of that name; 0, which no date has, if there is none.
func monthOf(name string) int {
	for i, n := range monthNames {
		if n == name {
			return i + 1
		}
	}
	return 0
}

// fullYear is the year that four digits say, or two.
func fullYear(digits string) int {
	n := number(digits)
	switch {
	case len(digits) > 2:
		return n
	case n < turningYear:
		return n + 2000
	}
	return n + 1900
}

// fits tells whether a text is of one of these forms.
func fits(s string, forms ...string) bool {
	for _, form := range forms {
		if isOf(s, form) {
			return true
		}
	}
	return false
}

func isOf(s, form string) bool {
	if len(s) != len(form) {
		return false
	}
	for i := range len(form) {
		if s[i] != form[i] && (form[i] != anyDigit || !isDigit(s[i])) {
			return false
		}
	}
	return true
}

// number is what digits say: few of them, which a form has let.
func number(digits string) int {
	n := 0
	for _, c := range []byte(digits) {
		n = n*10 + int(c-'0')
	}
	return n
}

func isDigit(c byte) bool {
	return '0' <= c && c <= '9'
}
