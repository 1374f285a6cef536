package tests

import (
	"math"
	"strings"
	"testing"
	"time"

	"loop.example/g00207/impl"
)

const secondsOfDay = 86400

// dateOfTime and its kin tell dates once more, by the calendar of the library.
func dateOfTime(at time.Time) impl.Date {
	return impl.Date{
		Year: int64(at.Year()), Month: int64(at.Month()), Day: int64(at.Day()),
		Hour: int64(at.Hour()), Minute: int64(at.Minute()), Second: int64(at.Second()),
	}
}

func dateAtByTime(moment int64) impl.Date {
	return dateOfTime(time.Unix(moment, 0).UTC())
}

func midnight(year, month, day int64) impl.Date {
	return impl.Date{Year: year, Month: month, Day: day}
}

// wrongDates are not DateOk, each by one field alone, or by all.
func wrongDates() []impl.Date {
	right := impl.Date{Year: 2000, Month: 6, Day: 15, Hour: 12, Minute: 30, Second: 30}
	wrong := []impl.Date{
		{}, midnight(1970, 0, 0), midnight(1970, 0, 1), midnight(1970, 1, 0),
		midnight(1969, 12, 31), midnight(10000, 1, 1), midnight(0, 1, 1), midnight(-2000, 1, 1),
		midnight(1970, 2, 29), midnight(2100, 2, 29), midnight(9999, 2, 29), midnight(2000, 2, 30), midnight(2004, 2, 30),
		midnight(1970, 4, 31), midnight(9999, 12, 32), midnight(1970, -1, 1), midnight(1970, 13, 1),
	}
	for _, n := range []int64{-1, 60, 100, 10000, 1 << 32, 1<<32 + 1, math.MaxInt64, math.MinInt64, math.MaxInt64 - 1, math.MinInt64 + 1} {
		for field := range 6 {
			d := right
			*[]*int64{&d.Year, &d.Month, &d.Day, &d.Hour, &d.Minute, &d.Second}[field] = n
			wrong = append(wrong, d)
		}
		wrong = append(wrong, impl.Date{Year: n, Month: n, Day: n, Hour: n, Minute: n, Second: n})
	}
	for _, hour := range []int64{24, 25} {
		d := right
		d.Hour = hour
		wrong = append(wrong, d)
	}
	return wrong
}

func TestLeap(t *testing.T) {
	for year, want := range map[int64]bool{
		1970: false, 1971: false, 1972: true, 1973: false, 1996: true, 1999: false, 2000: true, 2001: false, 2004: true,
		2100: false, 2200: false, 2300: false, 2400: true, 9996: true, 9999: false, 10000: true,
		1600: true, 1700: false, 1900: false, 4: true, 100: false, 400: true, 0: true, 1: false,
		-1: false, -4: true, -100: false, -400: true,
		math.MaxInt64: false, math.MaxInt64 - 3: true, math.MinInt64: true, math.MinInt64 + 1: false,
	} {
		if impl.Leap(year) != want {
			t.Errorf("Leap(%d) is not %v", year, want)
		}
	}
	for year := int64(-5000); year <= 12000; year++ {
		want := time.Date(int(year), 12, 31, 0, 0, 0, 0, time.UTC).YearDay() == 366
		if impl.Leap(year) != want {
			t.Errorf("Leap(%d) is not %v", year, want)
		}
	}
}

func TestDateOkByTheDayOfTheMonth(t *testing.T) {
	last := []int64{31, 28, 31, 30, 31, 30, 31, 31, 30, 31, 30, 31}
	for _, year := range []int64{1970, 1971, 1972, 1999, 2000, 2001, 2004, 2096, 2100, 2400, 9996, 9999} {
		for month := int64(1); month <= 12; month++ {
			most := last[month-1]
			if month == 2 && (year%4 == 0 && year%100 != 0 || year%400 == 0) {
				most = 29
			}
			for day := int64(-1); day <= 33; day++ {
				if want := day >= 1 && day <= most; impl.DateOk(midnight(year, month, day)) != want {
					t.Errorf("DateOk of %d-%d-%d is not %v", year, month, day, want)
				}
			}
		}
	}
}

func TestDateOkAtTheEdgeOfEachField(t *testing.T) {
	right := impl.Date{Year: 2000, Month: 6, Day: 15, Hour: 12, Minute: 30, Second: 30}
	edges := []struct {
		least, most int64
		field       func(*impl.Date) *int64
	}{
		{1970, 9999, func(d *impl.Date) *int64 { return &d.Year }},
		{1, 12, func(d *impl.Date) *int64 { return &d.Month }},
		{1, 30, func(d *impl.Date) *int64 { return &d.Day }},
		{0, 23, func(d *impl.Date) *int64 { return &d.Hour }},
		{0, 59, func(d *impl.Date) *int64 { return &d.Minute }},
		{0, 59, func(d *impl.Date) *int64 { return &d.Second }},
	}
	for i, edge := range edges {
		for n, want := range map[int64]bool{
			edge.least - 1: false, edge.least: true, edge.least + 1: true, edge.most - 1: true, edge.most: true, edge.most + 1: false,
			math.MaxInt64: false, math.MinInt64: false,
		} {
			d := right
			*edge.field(&d) = n
			if impl.DateOk(d) != want {
				t.Errorf("field %d: DateOk(%v) is not %v", i, d, want)
			}
		}
	}
}

func TestDays(t *testing.T) {
	for d, want := range map[impl.Date]int64{
		midnight(1970, 1, 1):   0,
		midnight(1970, 1, 31):  30,
		midnight(1970, 2, 1):   31,
		midnight(1970, 2, 28):  58,
		midnight(1970, 3, 1):   59,
		midnight(1970, 12, 31): 364,
		midnight(1971, 1, 1):   365,
		midnight(1972, 2, 29):  789,
		midnight(1972, 3, 1):   790,
		midnight(1973, 1, 1):   1096,
		midnight(2000, 2, 28):  11015,
		midnight(2000, 2, 29):  11016,
		midnight(2000, 3, 1):   11017,
		midnight(2100, 3, 1):   47541,
		midnight(9999, 1, 1):   2932532,
		midnight(9999, 12, 31): 2932896,
		{Year: 2000, Month: 3, Day: 1, Hour: 23, Minute: 59, Second: 59}: 11017,
	} {
		if got := impl.Days(d); got != want {
			t.Errorf("Days(%v): %d, not %d", d, got, want)
		}
	}
}

func TestMoment(t *testing.T) {
	for d, want := range map[impl.Date]int64{
		midnight(1970, 1, 1):                                               0,
		{Year: 1970, Month: 1, Day: 1, Second: 1}:                          1,
		{Year: 1970, Month: 1, Day: 1, Minute: 1}:                          60,
		{Year: 1970, Month: 1, Day: 1, Hour: 1}:                            3600,
		midnight(1970, 1, 2):                                               86400,
		{Year: 1970, Month: 12, Day: 31, Hour: 23, Minute: 59, Second: 59}: 31535999,
		midnight(1971, 1, 1):                                               31536000,
		{Year: 2001, Month: 9, Day: 9, Hour: 1, Minute: 46, Second: 40}:    1000000000,
		{Year: 2038, Month: 1, Day: 19, Hour: 3, Minute: 14, Second: 8}:    1 << 31,
		midnight(9999, 1, 1):                                               253370764800,
		{Year: 9999, Month: 12, Day: 31, Hour: 23, Minute: 59, Second: 59}: 253402300799,
	} {
		if got := impl.Moment(d); got != want {
			t.Errorf("Moment(%v): %d, not %d", d, got, want)
		}
		if got := impl.DateAt(want); got != d {
			t.Errorf("DateAt(%d): %v, not %v", want, got, d)
		}
	}
}

func TestDateAtOutOfRange(t *testing.T) {
	if impl.MaxMoment != 253402300799 {
		t.Fatal(int64(impl.MaxMoment))
	}
	for _, moment := range []int64{-1, -2, -86400, -1 << 32, math.MinInt64, math.MinInt64 + 1, impl.MaxMoment + 1, impl.MaxMoment + 86400, 1 << 40, math.MaxInt64} {
		if got := impl.DateAt(moment); got != (impl.Date{}) {
			t.Errorf("DateAt(%d): %v", moment, got)
		}
	}
	for _, moment := range []int64{0, 1, impl.MaxMoment - 1, impl.MaxMoment} {
		if got := impl.DateAt(moment); !impl.DateOk(got) || impl.Moment(got) != moment {
			t.Errorf("DateAt(%d): %v", moment, got)
		}
	}
}

// Every day there is, with a second of it that walks through the day.
func TestEachDayByTheCalendar(t *testing.T) {
	days := int64(0)
	for ; days*secondsOfDay <= impl.MaxMoment; days++ {
		moment := days*secondsOfDay + days*7919%secondsOfDay
		want := dateAtByTime(moment)
		d := impl.DateAt(moment)
		if d != want {
			t.Fatalf("DateAt(%d): %v, not %v", moment, d, want)
		}
		if !impl.DateOk(d) || impl.Days(d) != days || impl.Moment(d) != moment || impl.Weekday(d) != (days+4)%7 {
			t.Fatalf("%v: %v, day %d, moment %d, weekday %d", d, impl.DateOk(d), impl.Days(d), impl.Moment(d), impl.Weekday(d))
		}
	}
	if days != 2932897 {
		t.Errorf("%d days", days)
	}
}

func TestDateAtOfEachSecondOfADay(t *testing.T) {
	for _, day := range []int64{0, 789, 11016, impl.MaxMoment / secondsOfDay} {
		for second := range int64(secondsOfDay) {
			moment := day*secondsOfDay + second
			d := impl.DateAt(moment)
			if d != dateAtByTime(moment) || impl.Moment(d) != moment {
				t.Fatalf("DateAt(%d): %v, whose Moment is %d", moment, d, impl.Moment(d))
			}
		}
	}
}

// later tells by the fields alone whether a date is behind another.
func later(d, e impl.Date) bool {
	a := []int64{d.Year, d.Month, d.Day, d.Hour, d.Minute, d.Second}
	b := []int64{e.Year, e.Month, e.Day, e.Hour, e.Minute, e.Second}
	for i := range a {
		if a[i] != b[i] {
			return a[i] > b[i]
		}
	}
	return false
}

func TestMomentsGoWithDates(t *testing.T) {
	var dates []impl.Date
	for _, year := range []int64{1970, 1971, 1972, 2000, 2100, 9999} {
		for _, month := range []int64{1, 2, 3, 12} {
			for _, day := range []int64{1, 28} {
				for _, time := range []int64{0, 1, 59} {
					dates = append(dates, impl.Date{Year: year, Month: month, Day: day, Hour: time % 24, Minute: time, Second: 59 - time})
				}
			}
		}
	}
	for _, d := range dates {
		for _, e := range dates {
			if later(d, e) != (impl.Moment(d) > impl.Moment(e)) {
				t.Errorf("%v and %v: moments %d and %d", d, e, impl.Moment(d), impl.Moment(e))
			}
		}
	}
}

func TestWeekday(t *testing.T) {
	for d, want := range map[impl.Date]int64{
		midnight(1970, 1, 1):   4,
		midnight(1970, 1, 2):   5,
		midnight(1970, 1, 3):   6,
		midnight(1970, 1, 4):   0,
		midnight(1970, 1, 5):   1,
		midnight(1970, 1, 6):   2,
		midnight(1970, 1, 7):   3,
		midnight(1970, 1, 8):   4,
		midnight(2000, 2, 29):  2,
		midnight(2000, 3, 1):   3,
		midnight(9999, 12, 31): 5,
		{Year: 1970, Month: 1, Day: 3, Hour: 23, Minute: 59, Second: 59}: 6,
	} {
		if got := impl.Weekday(d); got != want {
			t.Errorf("Weekday(%v): %d, not %d", d, got, want)
		}
	}
	for moment := int64(0); moment+7*secondsOfDay <= impl.MaxMoment; moment += 99991 * 7 {
		seen := [7]int64{}
		for day := range int64(7) {
			seen[impl.Weekday(impl.DateAt(moment+day*secondsOfDay))]++
		}
		if seen != [7]int64{1, 1, 1, 1, 1, 1, 1} || impl.Weekday(impl.DateAt(moment)) != impl.Weekday(impl.DateAt(moment+7*secondsOfDay)) {
			t.Fatalf("the week from %d on: %v", moment, seen)
		}
	}
}

func TestNoNumberOfAWrongDate(t *testing.T) {
	for _, d := range wrongDates() {
		before := d
		if impl.DateOk(d) || impl.Days(d) != -1 || impl.Moment(d) != -1 || impl.Weekday(d) != -1 || impl.ShowDate(d) != "" {
			t.Errorf("%v: %v, day %d, moment %d, weekday %d, %q", d, impl.DateOk(d), impl.Days(d), impl.Moment(d), impl.Weekday(d), impl.ShowDate(d))
		}
		if d != before {
			t.Errorf("%v became %v", before, d)
		}
	}
}

// shownDates has each weekday and each month, numbers of one digit and of two, and the edges.
var shownDates = map[impl.Date]string{
	midnight(1970, 1, 1): "Thu, 01 Jan 1970 00:00:00 GMT",
	{Year: 1970, Month: 12, Day: 31, Hour: 23, Minute: 59, Second: 59}: "Thu, 31 Dec 1970 23:59:59 GMT",
	{Year: 1994, Month: 11, Day: 6, Hour: 8, Minute: 49, Second: 37}:   "Sun, 06 Nov 1994 08:49:37 GMT",
	{Year: 2000, Month: 2, Day: 29, Hour: 0, Minute: 0, Second: 9}:     "Tue, 29 Feb 2000 00:00:09 GMT",
	{Year: 2000, Month: 3, Day: 1, Hour: 1, Minute: 2, Second: 3}:      "Wed, 01 Mar 2000 01:02:03 GMT",
	{Year: 2001, Month: 4, Day: 30, Hour: 10, Minute: 10, Second: 10}:  "Mon, 30 Apr 2001 10:10:10 GMT",
	{Year: 2002, Month: 5, Day: 9, Hour: 9, Minute: 9, Second: 9}:      "Thu, 09 May 2002 09:09:09 GMT",
	{Year: 2003, Month: 6, Day: 20, Hour: 20, Minute: 30, Second: 40}:  "Fri, 20 Jun 2003 20:30:40 GMT",
	{Year: 2004, Month: 7, Day: 10, Hour: 19, Minute: 50, Second: 5}:   "Sat, 10 Jul 2004 19:50:05 GMT",
	{Year: 2005, Month: 8, Day: 31, Hour: 23, Minute: 0, Second: 59}:   "Wed, 31 Aug 2005 23:00:59 GMT",
	{Year: 2006, Month: 9, Day: 3, Hour: 0, Minute: 59, Second: 0}:     "Sun, 03 Sep 2006 00:59:00 GMT",
	{Year: 2100, Month: 10, Day: 1, Hour: 12, Minute: 34, Second: 56}:  "Fri, 01 Oct 2100 12:34:56 GMT",
	midnight(9999, 1, 1): "Fri, 01 Jan 9999 00:00:00 GMT",
	{Year: 9999, Month: 12, Day: 31, Hour: 23, Minute: 59, Second: 59}: "Fri, 31 Dec 9999 23:59:59 GMT",
}

func TestShowDateAndReadDate(t *testing.T) {
	for d, want := range shownDates {
		if got := impl.ShowDate(d); got != want {
			t.Errorf("ShowDate(%v): %q, not %q", d, got, want)
		}
		if got, is := impl.ReadDate(want); !is || got != d {
			t.Errorf("ReadDate(%q): %v, %v", want, got, is)
		}
	}
	const layout = "Mon, 02 Jan 2006 15:04:05 GMT"
	for moment := int64(0); moment <= impl.MaxMoment; moment += 1234567 {
		want := time.Unix(moment, 0).UTC().Format(layout)
		d := impl.DateAt(moment)
		s := impl.ShowDate(d)
		got, is := impl.ReadDate(s)
		if s != want || !is || got != d {
			t.Fatalf("%d: %q, not %q; read as %v, %v", moment, s, want, got, is)
		}
	}
}

func TestReadDateOfWrongTexts(t *testing.T) {
	wrong := []string{
		"", " ", "GMT", "Thu", "Thu, ", strings.Repeat(" ", 29), strings.Repeat("0", 29), strings.Repeat("\xff", 29), strings.Repeat("x", 100000),
		"Tue, 01 Mar 2000 01:02:03 GMT",
		"wed, 01 Mar 2000 01:02:03 GMT", "WED, 01 Mar 2000 01:02:03 GMT", "Wed, 01 mar 2000 01:02:03 GMT", "Wed, 01 MAR 2000 01:02:03 GMT",
		"Wed, 01 Mar 2000 01:02:03 gmt", "Wed, 01 Mar 2000 01:02:03 UTC", "Wed, 01 Mar 2000 01:02:03 +00", "Wed, 01 arA 2000 01:02:03 GMT",
		"Wed,01 Mar 2000 01:02:03 GMT", "Wed,  01 Mar 2000 01:02:03 GMT", "Wed , 01 Mar 2000 01:02:03 GMT", "Wed, 01  Mar 2000 01:02:03 GMT",
		"Wed, 01Mar 2000 01:02:03 GMT", "Wed, 01 Mar2000 01:02:03 GMT", "Wed, 01 Mar 200001:02:03 GMT", "Wed, 01 Mar 2000 01:02:03GMT",
		" Wed, 01 Mar 2000 01:02:03 GMT", "Wed, 01 Mar 2000 01:02:03 GMT ", "Wed, 01 Mar 2000 01:02:03  GMT", "Wed, 01 Mar 2000  01:02:03 GMT",
		"Wed,\t01 Mar 2000 01:02:03 GMT", "Wed 01 Mar 2000 01:02:03 GMT", "Wed; 01 Mar 2000 01:02:03 GMT", "Wed, 01-Mar-2000 01:02:03 GMT",
		"Wed, 01 Mar 2000 01:02:03 GMT\n", "Wed, 01 Mar 2000 01:02:03 GMT\x00", "Wed, 01 Mar 2000 01:02:03 GMTx", "Wed, 01 Mar 2000 01:02:03 GMT GMT",
		"Wed, 01 Mar 2000 01:02:03 GM", "Wed, 01 Mar 2000 01:02:03", "Wed, 01 Mar 2000 01:02:03 ",
		"Wed, 1 Mar 2000 01:02:03 GMT", "Wed,  1 Mar 2000 01:02:03 GMT", "Wed, 001 Mar 2000 01:02:03 GMT", "Wed, +1 Mar 2000 01:02:03 GMT", "Wed, -1 Mar 2000 01:02:03 GMT",
		"Wed, 01 Mar 2000 1:02:03 GMT", "Wed, 01 Mar 2000  1:02:03 GMT", "Wed, 01 Mar 2000 01:2:03 GMT", "Wed, 01 Mar 2000 01:02:3 GMT",
		"Wed, 01 Mar 2000 01.02.03 GMT", "Wed, 01 Mar 2000 010203 GMT", "Wed, 01 Mar 2000 01:02 GMT", "Wed, 01 Mar 2000 01:02:03.0 GMT",
		"Wed, 01 03 2000 01:02:03 GMT", "Wed, 01 Mar 00 01:02:03 GMT", "Wed, 01 Mar 02000 01:02:03 GMT", "Wednesday, 01 Mar 2000 01:02:03 GMT",
		"Wed, 01 Mar 20\uff10 01:02:03 GMT", "Wed, 0\u0661 Mar 2000 01:02:03 GMT",
	}
	// Digits that are no date, under each weekday, since none of them is theirs.
	for _, weekday := range []string{"Sun", "Mon", "Tue", "Wed", "Thu", "Fri", "Sat"} {
		for _, rest := range []string{
			"29 Feb 2001 01:02:03", "29 Feb 2100 01:02:03", "30 Feb 2000 01:02:03", "31 Apr 2000 01:02:03", "32 Jan 2000 01:02:03", "00 Mar 2000 01:02:03",
			"99 Mar 2000 01:02:03", "01 Mar 2000 24:00:00", "01 Mar 2000 23:60:00", "01 Mar 2000 23:59:60", "01 Mar 2000 99:99:99",
			"31 Dec 1969 23:59:59", "01 Jan 1900 00:00:00", "01 Jan 0000 00:00:00", "01 Mar 0200 01:02:03", "01 Xyz 2000 01:02:03", "01     2000 01:02:03",
		} {
			wrong = append(wrong, weekday+", "+rest+" GMT")
		}
	}
	for _, s := range append(wrong, oddTexts...) {
		if got, is := impl.ReadDate(s); is || got != (impl.Date{}) {
			t.Errorf("ReadDate(%q): %v, %v", s, got, is)
		}
	}
}

// A text with one byte changed, left out or put in is a Date just when ShowDate makes that text.
func TestReadDateOfNearTexts(t *testing.T) {
	for d, s := range shownDates {
		for at := range len(s) + 1 {
			for b := range 256 {
				near := []string{s[:at] + string([]byte{byte(b)}) + s[at:], s[:at]}
				if at < len(s) {
					near = append(near, s[:at]+string([]byte{byte(b)})+s[at+1:], s[:at]+s[at+1:])
				}
				for _, text := range near {
					got, is := impl.ReadDate(text)
					if is && impl.ShowDate(got) != text || !is && got != (impl.Date{}) || is != rightByTime(text) {
						t.Fatalf("ReadDate(%q), near %v: %v, %v", text, d, got, is)
					}
				}
			}
		}
	}
}

// rightByTime tells whether the library reads a text as a date and makes it again.
func rightByTime(s string) bool {
	const layout = "Mon, 02 Jan 2006 15:04:05 GMT"
	at, err := time.Parse(layout, s)
	return err == nil && at.Format(layout) == s && at.Year() >= 1970
}

func TestReadDateOfEachWeekday(t *testing.T) {
	for d, s := range shownDates {
		for number, name := range []string{"Sun", "Mon", "Tue", "Wed", "Thu", "Fri", "Sat"} {
			got, is := impl.ReadDate(name + s[3:])
			if want := impl.Weekday(d) == int64(number); is != want || is && got != d || !is && got != (impl.Date{}) {
				t.Errorf("ReadDate(%q): %v, %v", name+s[3:], got, is)
			}
		}
	}
}

func TestDateAnswersAreNewMemory(t *testing.T) {
	for d := range shownDates {
		first, second := impl.ShowDate(d), impl.ShowDate(d)
		if first != second || sharesMemory(first, second) {
			t.Errorf("ShowDate(%v): %q and %q", d, first, second)
		}
		text := strings.Clone(first)
		e, is := impl.ReadDate(text)
		if f, too := impl.ReadDate(text); e != f || is != too || text != first {
			t.Errorf("ReadDate(%q): %v and %v", text, e, f)
		}
	}
}
