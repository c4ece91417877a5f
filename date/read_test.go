package date

import (
	"fmt"
	"math/rand"
	"regexp"
	"strconv"
	"strings"
	"testing"
	"time"

	"lantern/api"
)

// What this file reads times by, once letters of ASCII are small.
var (
	pattern3339 = regexp.MustCompile(`\A([0-9]{4})-([0-9]{2})-([0-9]{2})t([01][0-9]|2[0-3]):([0-5][0-9]):([0-5][0-9])(?:\.[0-9]{1,9})?(?:z|([+-])([01][0-9]|2[0-3]):([0-5][0-9]))\z`)
	pattern822  = regexp.MustCompile(strings.ReplaceAll(`\A_*(?:(?:mon|tue|wed|thu|fri|sat|sun),_+)?([0-9]{1,2})_+(jan|feb|mar|apr|may|jun|jul|aug|sep|oct|nov|dec)_+([0-9]{4}|[0-9]{2})_+`+
		`([01][0-9]|2[0-3]):([0-5][0-9])(?::([0-5][0-9]))?_+(?:([+-])([01][0-9]|2[0-3])([0-5][0-9])|(utc?|gmt|z|[ecmp][sd]t))_*\z`, "_", `[ \t\n\r]`))
)

const months = "jan feb mar apr may jun jul aug sep oct nov dec"

// small is a text whose letters of ASCII are small; the library's own ToLower turns other letters, too.
func small(s string) string {
	b := []byte(s)
	for i := range b {
		if 'A' <= b[i] && b[i] <= 'Z' {
			b[i] |= 0x20
		}
	}
	return string(b)
}

// numberOf is what digits say; 0, if there are none.
func numberOf(digits string) int {
	n, _ := strconv.Atoi(digits)
	return n
}

// secondsOf is the time of these parts, by the library's calendar; it turns what is no date to another one.
func secondsOf(year, month, day, hour, minute, second, ahead int) (int64, api.Errno) {
	at := time.Date(year, time.Month(month), day, hour, minute, second, 0, time.UTC)
	if year < 1 || year > 9999 || at.Year() != year || int(at.Month()) != month || at.Day() != day {
		return 0, api.ErrText
	}
	return at.Unix() - int64(ahead), api.OK
}

func aheadOf(sign, hours, minutes string) int {
	return numberOf(sign+"1") * (numberOf(hours)*3600 + numberOf(minutes)*60)
}

// of3339 is what Rfc3339 is to tell.
func of3339(s string) (int64, api.Errno) {
	p := pattern3339.FindStringSubmatch(small(s))
	if p == nil {
		return 0, api.ErrText
	}
	return secondsOf(numberOf(p[1]), numberOf(p[2]), numberOf(p[3]), numberOf(p[4]), numberOf(p[5]), numberOf(p[6]), aheadOf(p[7], p[8], p[9]))
}

// of822 is what Rfc822 is to tell.
func of822(s string) (int64, api.Errno) {
	p := pattern822.FindStringSubmatch(small(s))
	if p == nil {
		return 0, api.ErrText
	}
	year := numberOf(p[3])
	if len(p[3]) == 2 {
		year += map[bool]int{true: 2000, false: 1900}[year <= 49]
	}
	ahead := aheadOf(p[7], p[8], p[9])
	if name := p[10]; strings.HasSuffix(name, "st") || strings.HasSuffix(name, "dt") {
		ahead = 3600 * (map[byte]int{'e': -5, 'c': -6, 'm': -7, 'p': -8}[name[0]] + map[byte]int{'s': 0, 'd': 1}[name[1]])
	}
	return secondsOf(year, strings.Index(months, p[2])/4+1, numberOf(p[1]), numberOf(p[4]), numberOf(p[5]), numberOf(p[6]), ahead)
}

// ofAny is what Any is to tell.
func ofAny(s string) (int64, api.Errno) {
	s = strings.Trim(s, " \t\r\n")
	if at, e := of3339(s); e == api.OK {
		return at, e
	}
	return of822(s)
}

// A call is one of this layer that reads a time, and what it is to tell.
type call struct {
	name string
	run  func(string) (int64, api.Errno)
	want func(string) (int64, api.Errno)
}

var (
	rfc3339 = call{"Rfc3339", Rfc3339, of3339}
	rfc822  = call{"Rfc822", Rfc822, of822}
	either  = call{"Any", Any, ofAny}
)

// is holds what a call, and this file's patterns, tell of a text against what they are to tell.
func (c call) is(t *testing.T, s string, want int64) {
	t.Helper()
	c.told(t, s, want, api.OK)
}

func (c call) refuses(t *testing.T, s string) {
	t.Helper()
	c.told(t, s, 0, api.ErrText)
}

func (c call) told(t *testing.T, s string, want int64, errno api.Errno) {
	t.Helper()
	if got, e := c.run(s); got != want || e != errno {
		t.Errorf("%s(%.80q) = %d, error %d, want %d, error %d", c.name, s, got, e, want, errno)
	}
	if got, e := c.want(s); got != want || e != errno {
		t.Errorf("%s(%.80q): this file's patterns make %d, error %d, want %d, error %d", c.name, s, got, e, want, errno)
	}
}

// as holds what a call tells of a text against what this file's patterns make of it.
func (c call) as(t *testing.T, s string) {
	t.Helper()
	got, e := c.run(s)
	if want, errno := c.want(s); got != want || e != errno {
		t.Errorf("%s(%.80q) = %d, error %d, want %d, error %d", c.name, s, got, e, want, errno)
	}
}

func allAs(t *testing.T, s string) {
	t.Helper()
	rfc3339.as(t, s)
	rfc822.as(t, s)
	either.as(t, s)
}

func TestDa2Example(t *testing.T) {
	rfc822.is(t, "Thu, 01 Jan 1970 00:00:00 GMT", 0)
	rfc3339.is(t, "1969-12-31T23:59:59Z", -1)
	rfc3339.refuses(t, "2000-02-30T00:00:00Z")
	either.is(t, "Thu, 01 Jan 1970 00:00:00 GMT", 0)
	either.is(t, "1969-12-31T23:59:59Z", -1)
	either.refuses(t, "2000-02-30T00:00:00Z")
}

func TestDa2Rfc3339(t *testing.T) {
	for s, want := range map[string]int64{
		"1970-01-01T00:00:00Z": 0, "1970-01-01T00:00:01Z": 1, "1970-01-01T00:01:00Z": 60, "1970-01-01T01:00:00Z": 3600, "1970-01-02T00:00:00Z": 86400,
		"1970-02-01T00:00:00Z": 31 * 86400, "1971-01-01T00:00:00Z": 365 * 86400, "2000-02-29T23:59:59Z": 951868799, "2009-02-13T23:31:30Z": 1234567890,
		"1970-01-01t00:00:00z": 0, "1970-01-01T00:00:00z": 0, "1970-01-01t00:00:00Z": 0,
		// A fraction does not count, whichever side of 1970 it stands on.
		"1970-01-01T00:00:00.0Z": 0, "1970-01-01T00:00:00.9Z": 0, "1970-01-01T00:00:00.999999999Z": 0, "1969-12-31T23:59:59.999999999Z": -1, "1970-01-01T00:00:00.123456+00:00": 0,
		// Ahead of UTC it is earlier there, behind it later.
		"1970-01-01T00:00:00+01:00": -3600, "1970-01-01T00:00:00-01:00": 3600, "1970-01-01T00:00:00+00:01": -60, "1970-01-01T00:00:00-00:01": 60,
		"1970-01-01T00:00:00+00:00": 0, "1970-01-01T00:00:00-00:00": 0, "1970-01-01T05:30:00+05:30": 0, "1969-12-31T20:30:00-03:30": 0,
		"1970-01-01T23:59:00+23:59": 0, "1970-01-01T00:00:00+23:59": -86340, "1970-01-01T00:00:00-23:59": 86340, "2000-02-29t00:00:00.5-01:00": 951786000,
		// The first and the last date's times, and those that the zone carries beyond them.
		"0001-01-01T00:00:00Z": -62135596800, "9999-12-31T23:59:59Z": 253402300799, "0001-01-01T00:00:00+23:59": -62135683140, "9999-12-31T23:59:59-23:59": 253402387139,
	} {
		rfc3339.is(t, s, want)
		either.is(t, s, want)
		rfc822.refuses(t, s)
	}
}

func TestDa2Rfc3339Refuses(t *testing.T) {
	for _, s := range []string{
		"", "Z", "T", "2000-01-01", "2000-01-01T", "2000-01-01T00:00:00", "2000-01-01T00:00Z", "2000-01-01T00Z", "2000-01-01Z", "00:00:00Z", "T00:00:00Z",
		"2000-01-01 00:00:00Z", "2000-01-0100:00:00Z", "2000-01-01T00:00:00ZZ", "2000-01-01T00:00:00Z+00:00", "2000-01-01T00:00:00+00:00Z",
		"0000-01-01T00:00:00Z", "0000-02-29T00:00:00Z", "2000-00-01T00:00:00Z", "2000-13-01T00:00:00Z", "2000-01-00T00:00:00Z", "2000-01-32T00:00:00Z", "2000-04-31T00:00:00Z",
		"2001-02-29T00:00:00Z", "1900-02-29T00:00:00Z", "2100-02-29T00:00:00Z", "2000-02-30T00:00:00Z",
		"2000-01-01T24:00:00Z", "2000-01-01T23:60:00Z", "2000-01-01T23:59:60Z", "1998-12-31T23:59:60Z", "2000-01-01T99:00:00Z", "2000-01-01T00:99:00Z", "2000-01-01T00:00:99Z",
		"2000-01-01T00:00:00.Z", "2000-01-01T00:00:00.0000000000Z", "2000-01-01T00:00:00.5", "2000-01-01T00:00:00.", "2000-01-01T00:00:00..5Z", "2000-01-01T00:00:00.5.5Z", "2000-01-01T00:00:00,5Z", "2000-01-01T00:00:00.-5Z", "2000-01-01T00:00:005Z", "2000-01-01T00:00:00Z.5",
		"2000-01-01T00:00:00+24:00", "2000-01-01T00:00:00-24:00", "2000-01-01T00:00:00+00:60", "2000-01-01T00:00:00-00:60", "2000-01-01T00:00:00+0100", "2000-01-01T00:00:00+01", "2000-01-01T00:00:00+1:00", "2000-01-01T00:00:00+01:0", "2000-01-01T00:00:00+01:000",
		"2000-01-01T00:00:0001:00", "2000-01-01T00:00:00++1:00", "2000-01-01T00:00:00+", "2000-01-01T00:00:00-", "2000-01-01T00:00:00UTC", "2000-01-01T00:00:00GMT", "2000-01-01T00:00:00 Z", "2000-01-01T00:00:00\u221201:00",
		" 2000-01-01T00:00:00Z", "2000-01-01T00:00:00Z ", "2000-01-01T00:00:00Z\n", "\t2000-01-01T00:00:00Z",
		"200-01-01T00:00:00Z", "20000-01-01T00:00:00Z", "02000-01-01T00:00:00Z", "2000-1-01T00:00:00Z", "2000-01-1T00:00:00Z", "2000-01-01T0:00:00Z", "2000-01-01T00:0:00Z", "2000-01-01T00:00:0Z", "2000-001-01T00:00:00Z",
		"2000/01/01T00:00:00Z", "20000101T000000Z", "2000-01-01T00-00-00Z", "2000:01:01T00:00:00Z", "-200-01-01T00:00:00Z", "+200-01-01T00:00:00Z", "2000--1-01T00:00:00Z", "2000-01-01T+0:00:00Z", "2000-01-01T 0:00:00Z",
		"２000-01-01T00:00:00Z", "2000-01-01T00:00:00\u017a", "2000-01-01T00:00:00Z\x00", "\xff", "2000-01-01T00:00:00\xff", "200\xff-01-01T00:00:00Z", "1 Jan 2000 00:00 GMT",
	} {
		rfc3339.refuses(t, s)
	}
}

func TestDa2Rfc822(t *testing.T) {
	for s, want := range map[string]int64{
		"01 Jan 1970 00:00:00 GMT": 0, "1 Jan 1970 00:00:00 GMT": 0, "1 Jan 70 00:00 GMT": 0, "Thu, 1 Jan 1970 00:00 GMT": 0, "1 jan 70 00:00 +0100": -3600,
		"01 Jan 1970 00:00:01 GMT": 1, "01 Jan 1970 00:01:00 GMT": 60, "01 Jan 1970 00:01 GMT": 60, "01 Jan 1970 01:00 GMT": 3600, "2 Jan 1970 00:00 GMT": 86400, "31 Dec 1969 23:59:59 GMT": -1,
		// Which day is named does not matter.
		"Mon, 01 Jan 1970 00:00:00 GMT": 0, "sUN, 01 Jan 1970 00:00:00 GMT": 0, "Sat, 29 Feb 2000 23:59:59 GMT": 951868799,
		"01 Mar 2000 00:00:00 EST": 951886800, "Fri, 13 Feb 2009 23:31:30 UT": 1234567890, "Fri, 13 Feb 2009 18:31:30 -0500": 1234567890, "Sat, 14 Feb 2009 05:01:30 +0530": 1234567890,
		// Years of two digits, and of four that are as small.
		"1 Jan 00 00:00 Z": 946684800, "1 Jan 01 00:00 Z": 978307200, "1 Jan 49 00:00 Z": 2493072000, "1 Jan 50 00:00 Z": -631152000, "1 Jan 99 00:00 Z": 915148800, "29 Feb 00 00:00 Z": 951782400,
		"1 Jan 0001 00:00 Z": -62135596800, "1 Jan 0049 00:00 Z": -60620832000, "31 Dec 9999 23:59:59 Z": 253402300799, "1 Jan 0001 00:00 +2359": -62135683140, "31 Dec 9999 23:59:59 -2359": 253402387139,
		// Words are what stands between white, of any kind and as much as there is.
		"  1\tJan\n70\r00:00 \t\r\n GMT\n": 0, "\r\nThu,\r\n 1 Jan 70 00:00 GMT\r\n": 0, "Thu, \t 01   Jan  1970  00:00:00  GMT": 0,
		"1 Jan 1970 23:59 +2359": 0, "1 Jan 1970 00:00 -0000": 0, "1 Jan 1970 00:00 +0000": 0, "1 Jan 1970 00:00 -2359": 86340,
	} {
		rfc822.is(t, s, want)
		either.is(t, s, want)
		rfc3339.refuses(t, s)
	}
}

func TestDa2Rfc822Refuses(t *testing.T) {
	for _, s := range []string{
		"", " ", "Thu,", "Thu", ",", "1", "1 Jan", "1 Jan 2000", "1 Jan 2000 00:00", "1 Jan 2000 00:00:00", "Thu, 1 Jan 2000 00:00", "1 Jan 2000 GMT", "Jan 2000 00:00 GMT", "1 2000 00:00 GMT", "1 Jan 00:00 GMT",
		"1 Jan 2000 00:00 GMT GMT", "1 Jan 2000 00:00 GMT +0000", "1 1 Jan 2000 00:00 GMT", "Thu, Thu, 1 Jan 2000 00:00 GMT", "1 Jan 2000 00:00 GMT (noon)", "1 Jan 2000 00:00 00 GMT",
		// The day's name and its comma are one word.
		"Thu 1 Jan 2000 00:00 GMT", "Thu , 1 Jan 2000 00:00 GMT", "Thu,1 Jan 2000 00:00 GMT", "Thu ,1 Jan 2000 00:00 GMT", ", 1 Jan 2000 00:00 GMT", "Thu,, 1 Jan 2000 00:00 GMT", "Thu. 1 Jan 2000 00:00 GMT", "Thu; 1 Jan 2000 00:00 GMT",
		"Thursday, 1 Jan 2000 00:00 GMT", "Th, 1 Jan 2000 00:00 GMT", "Foo, 1 Jan 2000 00:00 GMT", "Jan, 1 Jan 2000 00:00 GMT", "1, 1 Jan 2000 00:00 GMT", "1 Thu, Jan 2000 00:00 GMT", "1 Jan 2000 00:00 GMT Thu,", "\u017fat, 1 Jan 2000 00:00 GMT",
		"0 Jan 2000 00:00 GMT", "00 Jan 2000 00:00 GMT", "32 Jan 2000 00:00 GMT", "31 Apr 2000 00:00 GMT", "30 Feb 2000 00:00 GMT", "29 Feb 2001 00:00 GMT", "29 Feb 1900 00:00 GMT", "29 Feb 01 00:00 GMT", "001 Jan 2000 00:00 GMT", "+1 Jan 2000 00:00 GMT", "-1 Jan 2000 00:00 GMT", "1st Jan 2000 00:00 GMT", "1. Jan 2000 00:00 GMT",
		"1 Jux 2000 00:00 GMT", "1 January 2000 00:00 GMT", "1 Ja 2000 00:00 GMT", "1 01 2000 00:00 GMT", "1 Mon 2000 00:00 GMT", "1 Jan, 2000 00:00 GMT", "1 \u017fep 2000 00:00 GMT", "1-Jan-2000 00:00 GMT", "1 anf 2000 00:00 GMT", "1 JanFeb 2000 00:00 GMT",
		"1 Jan 0 00:00 GMT", "1 Jan 200 00:00 GMT", "1 Jan 20000 00:00 GMT", "1 Jan 0000 00:00 GMT", "1 Jan 02000 00:00 GMT", "1 Jan -1 00:00 GMT", "1 Jan +200 00:00 GMT", "1 Jan 2x 00:00 GMT", "1 Jan '99 00:00 GMT",
		"1 Jan 2000 24:00 GMT", "1 Jan 2000 23:60 GMT", "1 Jan 2000 23:59:60 GMT", "1 Jan 2000 24:00:00 GMT", "1 Jan 2000 0:00 GMT", "1 Jan 2000 00:0 GMT", "1 Jan 2000 00:00:0 GMT", "1 Jan 2000 00 GMT", "1 Jan 2000 0000 GMT", "1 Jan 2000 00:00: GMT", "1 Jan 2000 :00 GMT", "1 Jan 2000 00.00 GMT", "1 Jan 2000 00:00.00 GMT", "1 Jan 2000 00:00:00.5 GMT", "1 Jan 2000 00:00:00: GMT", "1 Jan 2000 00:00:00:00 GMT", "1 Jan 2000 000:00 GMT", "1 Jan 2000 00:00:000 GMT", "1 Jan 2000 -1:00 GMT",
		"1 Jan 2000 00:00 +2400", "1 Jan 2000 00:00 -2400", "1 Jan 2000 00:00 +0060", "1 Jan 2000 00:00 -0060", "1 Jan 2000 00:00 +9999", "1 Jan 2000 00:00 0100", "1 Jan 2000 00:00 +100", "1 Jan 2000 00:00 +01000", "1 Jan 2000 00:00 +01:00", "1 Jan 2000 00:00 +", "1 Jan 2000 00:00 + 0100", "1 Jan 2000 00:00+0100", "1 Jan 2000 00:00 ++100", "1 Jan 2000 00:00 GMT+0100", "1 Jan 2000 00:00 UTC+1",
		"1 Jan 2000 00:00 A", "1 Jan 2000 00:00 Y", "1 Jan 2000 00:00 ET", "1 Jan 2000 00:00 CET", "1 Jan 2000 00:00 BST", "1 Jan 2000 00:00 U", "1 Jan 2000 00:00 UTCZ", "1 Jan 2000 00:00 ZZ", "1 Jan 2000 00:00 E\u017fT", "1 Jan 2000 00:00 GMT,", "1 Jan 2000 00:00 (GMT)",
		// These are white elsewhere.
		"1\vJan 2000 00:00 GMT", "1 Jan\f2000 00:00 GMT", "1\u00a0Jan 2000 00:00 GMT", "1 Jan 2000\u200300:00 GMT", "1 Jan 2000 00:00 GMT\v", "1 Jan 2000 00:00 GMT\u0085", "\u00a01 Jan 2000 00:00 GMT", "\ufeff1 Jan 2000 00:00 GMT",
		"1 Jan 2000 00:00 GMT\x00", "\xff", "1 Jan 2000 00:00 \xff", "1\xff Jan 2000 00:00 GMT", "1 \xffan 2000 00:00 GMT", "１ Jan 2000 00:00 GMT", "2000-01-01T00:00:00Z",
	} {
		rfc822.refuses(t, s)
	}
}

// cases calls f on a name in every case.
func cases(name string, f func(string)) {
	for set := range 1 << len(name) {
		b := []byte(strings.ToLower(name))
		for i := range b {
			if set>>i&1 == 1 {
				b[i] -= 0x20
			}
		}
		f(string(b))
	}
}

func TestDa2Names(t *testing.T) {
	for _, name := range []string{"Mon", "Tue", "Wed", "Thu", "Fri", "Sat", "Sun"} {
		cases(name, func(s string) { rfc822.is(t, s+", 1 Jan 1970 00:00 GMT", 0) })
	}
	begins := []int64{0, 31, 59, 90, 120, 151, 181, 212, 243, 273, 304, 334}
	for i, name := range []string{"Jan", "Feb", "Mar", "Apr", "May", "Jun", "Jul", "Aug", "Sep", "Oct", "Nov", "Dec"} {
		cases(name, func(s string) { rfc822.is(t, "1 "+s+" 1970 00:00 GMT", begins[i]*86400) })
	}
	for name, hours := range map[string]int64{"UT": 0, "UTC": 0, "GMT": 0, "Z": 0, "EST": -5, "EDT": -4, "CST": -6, "CDT": -5, "MST": -7, "MDT": -6, "PST": -8, "PDT": -7} {
		cases(name, func(s string) {
			rfc822.is(t, "1 Jan 1970 00:00 "+s, -hours*3600)
			rfc822.is(t, "Thu, 01 Jan 1970 12:34:56 "+s, 45296-hours*3600)
		})
	}
}

// TestDa2EveryName: no other word of up to three letters is a name of a day, a month or a zone.
func TestDa2EveryName(t *testing.T) {
	var grow func(s string)
	grow = func(s string) {
		rfc822.as(t, s+", 1 Jan 1970 00:00 GMT")
		rfc822.as(t, "1 "+s+" 1970 00:00 GMT")
		rfc822.as(t, "1 Jan 1970 00:00 "+s)
		if len(s) == 3 {
			return
		}
		for c := 'a'; c <= 'z'; c++ {
			grow(s + string(c))
		}
	}
	grow("")
}

// TestDa2EveryNumber: each number of each form, in each of its digits.
func TestDa2EveryNumber(t *testing.T) {
	for n := range 10000 {
		allAs(t, fmt.Sprintf("%04d-02-29T00:00:00Z", n))
		allAs(t, fmt.Sprintf("%04d-12-31T23:59:59Z", n))
		allAs(t, fmt.Sprintf("2000-%02d-%02dT00:00:00Z", n/100, n%100))
		allAs(t, fmt.Sprintf("2001-%02d-%02dT00:00:00Z", n/100, n%100))
		allAs(t, fmt.Sprintf("2000-01-01T%02d:%02d:59Z", n/100, n%100))
		allAs(t, fmt.Sprintf("2000-01-01T23:%02d:%02dZ", n/100, n%100))
		allAs(t, fmt.Sprintf("2000-01-01T00:00:00+%02d:%02d", n/100, n%100))
		allAs(t, fmt.Sprintf("2000-01-01T00:00:00-%02d:%02d", n/100, n%100))
		allAs(t, fmt.Sprintf("29 Feb %04d 00:00 GMT", n))
		allAs(t, fmt.Sprintf("%d Dec %02d 00:00 GMT", n/100, n%100))
		allAs(t, fmt.Sprintf("%02d Feb %02d 00:00 GMT", n/100, n%100))
		allAs(t, fmt.Sprintf("1 Jan 2000 %02d:%02d GMT", n/100, n%100))
		allAs(t, fmt.Sprintf("1 Jan 2000 %02d:%02d:59 GMT", n/100, n%100))
		allAs(t, fmt.Sprintf("1 Jan 2000 23:%02d:%02d GMT", n/100, n%100))
		allAs(t, fmt.Sprintf("1 Jan 2000 00:00 +%04d", n))
		allAs(t, fmt.Sprintf("1 Jan 2000 00:00 -%04d", n))
	}
}

func TestDa2Fraction(t *testing.T) {
	for n := 1; n <= 12; n++ {
		for _, zone := range []string{"Z", "z", "+01:00", "-01:00"} {
			for _, digit := range []string{"0", "5", "9"} {
				s := "1970-01-01T00:00:00." + strings.Repeat(digit, n) + zone
				want := map[string]int64{"Z": 0, "z": 0, "+01:00": -3600, "-01:00": 3600}[zone]
				if n > 9 {
					rfc3339.refuses(t, s)
				} else {
					rfc3339.is(t, s, want)
				}
			}
		}
	}
}

// written are times in all of their forms.
func written() []string {
	return []string{
		"2000-02-29T23:59:59Z", "1969-12-31t00:00:00.123456789z", "1996-11-30T12:34:56.7+08:45", "9999-01-01T00:00:00-23:59",
		"Thu, 01 Jan 1970 00:00:00 GMT", "9 Sep 49 23:59 Z", " Tue,\t31 Oct 2017\r\n08:15:30 -0730\n", "29 feb 96 01:02:03 pdt", "1 May 50 00:00 UTC",
	}
}

// TestDa2EveryByte: times with any one byte turned, put in, left out or doubled, and cut anywhere.
func TestDa2EveryByte(t *testing.T) {
	for _, s := range written() {
		for i := range len(s) + 1 {
			allAs(t, s[:i])
			allAs(t, s[i:])
			for c := range 256 {
				allAs(t, s[:i]+string([]byte{byte(c)})+s[i:])
				if i < len(s) {
					allAs(t, s[:i]+string([]byte{byte(c)})+s[i+1:])
				}
			}
			if i < len(s) {
				allAs(t, s[:i]+s[i+1:])
				allAs(t, s[:i+1]+s[i:])
			}
		}
	}
}

func TestDa2Any(t *testing.T) {
	white := []string{"", " ", "\t", "\n", "\r", "\r\n", " \t\r\n \n"}
	for _, s := range []string{"1970-01-01T01:00:00+01:00", "1 Jan 70 01:00 +0100", "Thu, 01 Jan 1970 00:00:00 GMT"} {
		for _, ahead := range white {
			for _, behind := range white {
				either.is(t, ahead+s+behind, 0)
			}
		}
		for _, other := range []string{"\v", "\f", "\u00a0", "\u0085", "\u2003", "\ufeff", "\x00", "\xff", ".", "x"} {
			either.refuses(t, other+s)
			either.refuses(t, s+other)
			either.refuses(t, " "+other+s)
			either.refuses(t, s+other+" ")
		}
		either.refuses(t, s+" "+s)
		either.refuses(t, s+s)
	}
	for _, s := range []string{
		"", " ", "\r\n", "x", "now", "0", "1234567890", "2000-01-01", "2000-01-01T00:00:00", "2000-01-01 T00:00:00Z", "2000-01-01T00:00:00 Z", "2001-02-29T00:00:00Z", "2000-01-01T24:00:00Z",
		"1 Jux 2000 00:00 GMT", "29 Feb 2001 00:00 GMT", "Thu, 2000-01-01T00:00:00Z", "Thu Jan  1 00:00:00 1970", "Thursday, 01-Jan-70 00:00:00 GMT",
	} {
		either.refuses(t, s)
	}
}

// TestDa2RandomWords: texts put together by chance of what times are made of.
func TestDa2RandomWords(t *testing.T) {
	r := rand.New(rand.NewSource(14))
	one := func(of ...string) string { return of[r.Intn(len(of))] }
	white := func() string { return one(" ", " ", " ", " ", "\t", "\r\n", "  ", "", "\v") }
	zone := func() string {
		return one("Z", "z", "GMT", "ut", "Utc", "EST", "edt", "CsT", "CDT", "MST", "MDT", "PST", "PDT", "XST", "+0000", "-0130", "+2359", "+2400", "-0060", "+01:30", "-23:59", "+24:00", "-00:60", "")
	}
	clock := func() string {
		return one("00:00", "12:34", "23:59", "24:00", "12:60", "1:00", "00:00:00", "12:34:56", "23:59:59", "23:59:60", "24:00:00", "00:00:00.5", "")
	}
	read := 0
	for range 300000 {
		name := one("", "", "", "Mon,", "tue,", "WED,", "Thu", "Fri,,", "Sat,", "sun,", "Foo,")
		day := one("1", "01", "9", "28", "29", "30", "31", "32", "0", "00", "001")
		month := one("Jan", "feb", "MAR", "aPr", "May", "Jun", "jul", "Aug", "Sep", "Oct", "Nov", "Dec", "Jux", "Sept")
		year := one("00", "49", "50", "99", "4", "100", "0000", "0001", "1900", "1970", "2000", "2001", "9999", "10000")
		s := name + white() + day + white() + month + white() + year + white() + clock() + white() + zone()
		if r.Intn(2) == 0 {
			s = year + one("-", "-", "-", "/") + one("01", "02", "04", "12", "13", "00", "1") + "-" + day + one("T", "t", " ") + clock() + one("", "", ".5", ".123456789", ".") + zone()
		}
		allAs(t, s)
		if _, e := Any(s); e == api.OK {
			read++
		}
	}
	// Were nearly all of them refused, this would say little.
	if read < 1000 {
		t.Errorf("only %d were times", read)
	}
}

// TestLongTexts: at all lengths a call ends, and white, however much of it, stands between words.
func TestLongTexts(t *testing.T) {
	const size = 1 << 20
	white := strings.Repeat(" \t\r\n", size/4)
	rfc822.is(t, white+"1"+white+"Jan 70 00:00"+white+"Z"+white, 0)
	either.is(t, white+"1970-01-01T00:00:00Z"+white, 0)
	for _, s := range []string{white, strings.Repeat("0", size), strings.Repeat("Mon, ", size/5), "1970-01-01T00:00:00." + strings.Repeat("0", size) + "Z", "1970-01-01T00:00:00Z" + strings.Repeat("Z", size), strings.Repeat("\xff", size)} {
		rfc3339.refuses(t, s)
		rfc822.refuses(t, s)
		either.refuses(t, s)
	}
}
