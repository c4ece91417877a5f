package date

import (
	"math"
	"testing"
	"time"

	"lantern/api"
)

// daysIs holds Days and Civil against one date and its number.
func daysIs(t *testing.T, year, month, day, want int) {
	t.Helper()
	if n, e := Days(year, month, day); n != want || e != api.OK {
		t.Errorf("Days(%d, %d, %d) = %d, error %d, want %d", year, month, day, n, e, want)
	}
	if y, m, d, e := Civil(want); y != year || m != month || d != day || e != api.OK {
		t.Errorf("Civil(%d) = %d, %d, %d, error %d, want %d, %d, %d", want, y, m, d, e, year, month, day)
	}
}

func daysRefuses(t *testing.T, year, month, day int) {
	t.Helper()
	if n, e := Days(year, month, day); n != 0 || e != api.ErrArg {
		t.Errorf("Days(%d, %d, %d) = %d, error %d, want ErrArg", year, month, day, n, e)
	}
}

func civilRefuses(t *testing.T, days int) {
	t.Helper()
	if y, m, d, e := Civil(days); y != 0 || m != 0 || d != 0 || e != api.ErrArg {
		t.Errorf("Civil(%d) = %d, %d, %d, error %d, want ErrArg", days, y, m, d, e)
	}
}

func printIs(t *testing.T, at int64, want string) {
	t.Helper()
	if s, e := Print(at); s != want || e != api.OK {
		t.Errorf("Print(%d) = %q, error %d, want %q", at, s, e, want)
	}
}

func printRefuses(t *testing.T, at int64) {
	t.Helper()
	if s, e := Print(at); s != "" || e != api.ErrArg {
		t.Errorf("Print(%d) = %q, error %d, want ErrArg", at, s, e)
	}
}

func TestDa1KnownDates(t *testing.T) {
	for _, c := range [][4]int{
		{1970, 1, 1, 0}, {1970, 1, 2, 1}, {1969, 12, 31, -1}, {1970, 1, 31, 30}, {1970, 2, 1, 31}, {1970, 12, 31, 364}, {1971, 1, 1, 365},
		{1972, 2, 28, 788}, {1972, 2, 29, 789}, {1972, 3, 1, 790},
		{2000, 2, 28, 11015}, {2000, 2, 29, 11016}, {2000, 3, 1, 11017}, {2000, 12, 31, 11322}, {2001, 1, 1, 11323},
		{1900, 2, 28, -25509}, {1900, 3, 1, -25508}, {2100, 2, 28, 47540}, {2100, 3, 1, 47541},
		{1582, 10, 4, -141438}, {1582, 10, 5, -141437}, {1582, 10, 15, -141427},
		{1, 1, 1, -719162}, {1, 1, 2, -719161}, {1, 12, 31, -718798}, {4, 2, 29, -718008}, {400, 12, 31, -573066}, {401, 1, 1, -573065},
		{9999, 12, 31, 2932896}, {9999, 12, 30, 2932895},
	} {
		daysIs(t, c[0], c[1], c[2], c[3])
	}
}

func TestDa1NoDates(t *testing.T) {
	for _, c := range [][3]int{
		{0, 1, 1}, {0, 12, 31}, {0, 2, 29}, {-1, 1, 1}, {-4, 2, 29}, {10000, 1, 1}, {10000, 2, 29}, {12000, 6, 6},
		{2000, 0, 1}, {2000, 13, 1}, {2000, -1, 1}, {2000, 14, 31}, {2000, 1, 0}, {2000, 1, -1}, {2000, 1, 32}, {2000, 4, 31}, {2000, 12, 32},
		{2000, 2, 30}, {2001, 2, 29}, {1900, 2, 29}, {2100, 2, 29}, {1, 2, 29}, {100, 2, 29}, {9999, 2, 29},
		{0, 0, 0}, {math.MinInt, 1, 1}, {math.MaxInt, 1, 1}, {2000, math.MinInt, 1}, {2000, math.MaxInt, 1}, {2000, 1, math.MinInt}, {2000, 1, math.MaxInt},
		{math.MinInt, math.MinInt, math.MinInt}, {math.MaxInt, math.MaxInt, math.MaxInt},
	} {
		daysRefuses(t, c[0], c[1], c[2])
	}
	for _, days := range []int{-719163, -719164, -719162 - 365, -719162 - 146097, 2932897, 2932898, 2932896 + 146097, math.MinInt, math.MinInt + 719162, math.MaxInt, math.MaxInt - 719162} {
		civilRefuses(t, days)
	}
}

// TestDa1LeapYears: February's last day in each year, by the words of the chapter.
func TestDa1LeapYears(t *testing.T) {
	for year := 1; year <= 9999; year++ {
		leap := year%400 == 0 || year%4 == 0 && year%100 != 0
		_, e := Days(year, 2, 29)
		if want := map[bool]api.Errno{true: api.OK, false: api.ErrArg}[leap]; e != want {
			t.Errorf("Days(%d, 2, 29): error %d, want %d", year, e, want)
		}
		daysRefuses(t, year, 2, 30)
	}
}

// TestDa1EveryTriple: of all years, months and days around those that may be, the dates alone have a number.
func TestDa1EveryTriple(t *testing.T) {
	for year := -1; year <= 10001; year++ {
		for month := -1; month <= 14; month++ {
			for day := -1; day <= 33; day++ {
				n, e := Days(year, month, day)
				at := time.Date(year, time.Month(month), day, 0, 0, 0, 0, time.UTC)
				want, errno := int(at.Unix()/86400), api.OK
				if year < 1 || year > 9999 || at.Year() != year || int(at.Month()) != month || at.Day() != day {
					want, errno = 0, api.ErrArg
				}
				if n != want || e != errno {
					t.Fatalf("Days(%d, %d, %d) = %d, error %d, want %d, error %d", year, month, day, n, e, want, errno)
				}
			}
		}
	}
}

// TestDa3EveryDay: from the first date to the last one the next day is one more, and Civil of Days is the date.
func TestDa3EveryDay(t *testing.T) {
	n := -719162
	for at := time.Date(1, 1, 1, 0, 0, 0, 0, time.UTC); at.Year() <= 9999; at = at.AddDate(0, 0, 1) {
		daysIs(t, at.Year(), int(at.Month()), at.Day(), n)
		if t.Failed() {
			return
		}
		n++
	}
	if n != 2932897 {
		t.Errorf("the day behind the last date has number %d", n)
	}
}

func TestDa2Print(t *testing.T) {
	for at, want := range map[int64]string{
		0: "1970-01-01T00:00:00Z", 1: "1970-01-01T00:00:01Z", -1: "1969-12-31T23:59:59Z", 59: "1970-01-01T00:00:59Z", 60: "1970-01-01T00:01:00Z",
		3599: "1970-01-01T00:59:59Z", 3600: "1970-01-01T01:00:00Z", 86399: "1970-01-01T23:59:59Z", 86400: "1970-01-02T00:00:00Z",
		-86400: "1969-12-31T00:00:00Z", -86401: "1969-12-30T23:59:59Z", 951786000: "2000-02-29T01:00:00Z", 951868799: "2000-02-29T23:59:59Z", 951868800: "2000-03-01T00:00:00Z",
		1234567890: "2009-02-13T23:31:30Z", 1 << 31: "2038-01-19T03:14:08Z", -1 << 31: "1901-12-13T20:45:52Z", 1 << 32: "2106-02-07T06:28:16Z",
		-62135596800: "0001-01-01T00:00:00Z", -62135596799: "0001-01-01T00:00:01Z", -59011459201: "0099-12-31T23:59:59Z", -30610224001: "0999-12-31T23:59:59Z", -30610224000: "1000-01-01T00:00:00Z",
		253402300799: "9999-12-31T23:59:59Z", 253402300798: "9999-12-31T23:59:58Z",
	} {
		printIs(t, at, want)
	}
}

func TestDa2PrintRefuses(t *testing.T) {
	for _, at := range []int64{
		-62135596801, -62135596800 - 86400, 253402300800, 253402300799 + 86400, api.MaxTime, -api.MaxTime, api.MaxCount, -api.MaxCount,
		math.MinInt64, math.MinInt64 + 1, math.MinInt64 + 62135596800, math.MaxInt64 - 62135596800,
		// The days of these are dates' in their last 32 bits alone.
		86400 << 32, -86400 << 32, 86400<<32 + 1,
	} {
		printRefuses(t, at)
	}
}

// TestDa3RfcOfPrint: Print is as the library prints, and is read again, at every second of a day and at some second of every third day.
func TestDa3RfcOfPrint(t *testing.T) {
	holds := func(at int64) {
		t.Helper()
		want := time.Unix(at, 0).UTC().Format("2006-01-02T15:04:05Z")
		printIs(t, at, want)
		if got, e := Rfc3339(want); got != at || e != api.OK {
			t.Errorf("Rfc3339 of Print(%d) = %d, error %d", at, got, e)
		}
		if got, e := Any(want); got != at || e != api.OK {
			t.Errorf("Any of Print(%d) = %d, error %d", at, got, e)
		}
	}
	for at := int64(-86400); at < 86400; at++ {
		holds(at)
	}
	for day, second := int64(-719162), int64(0); day <= 2932896 && !t.Failed(); day += 3 {
		second = (second + 35999) % 86400
		holds(day*86400 + second)
	}
}

// TestNothingIsKept: what a call tells doesn't hang on the calls ahead.
func TestNothingIsKept(t *testing.T) {
	for range 3 {
		printIs(t, 0, "1970-01-01T00:00:00Z")
		printRefuses(t, math.MaxInt64)
		daysIs(t, 2000, 2, 29, 11016)
		daysRefuses(t, 2001, 2, 29)
		civilRefuses(t, math.MaxInt)
		rfc3339.is(t, "1969-12-31T23:59:59Z", -1)
		rfc3339.refuses(t, "1969-12-31T23:59:60Z")
		rfc822.is(t, "Thu, 01 Jan 1970 00:00:00 GMT", 0)
		rfc822.refuses(t, "Thu, 01 Jan 1970 00:00:60 GMT")
	}
}
