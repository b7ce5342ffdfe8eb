package tests

import (
	"math"
	"testing"
	"time"

	"loop.example/g00704/impl"
)

var noTimes = []int{-1, -2, -86400, -253402300799, math.MinInt, math.MinInt + 1, impl.MaxTime + 1, impl.MaxTime + 86400, math.MaxInt - 1, math.MaxInt}

var periodKinds = []int{impl.PHour, impl.PDay, impl.PWeek, impl.PMonth, impl.PYear}

var noKinds = []int{-1, 5, 6, 256, math.MinInt, math.MaxInt}

// calendarDay is one day of a calendar that is walked day by day, so that no
// rule of it is counted the way the program counts.
type calendarDay struct {
	number, year, month, day, weekday, yearDay     int
	week, months, weekStart, monthStart, yearStart int
}

func isLongYear(year int) bool {
	if year%400 == 0 {
		return true
	}
	if year%100 == 0 {
		return false
	}
	return year%4 == 0
}

func lengthOfMonth(year, month int) int {
	switch month {
	case 4, 6, 9, 11:
		return 30
	case 2:
		if isLongYear(year) {
			return 29
		}
		return 28
	}
	return 31
}

// everyDay walks from January 1, 1970 to December 31, 9999.
func everyDay(look func(c calendarDay)) {
	c := calendarDay{year: 1970, month: 1, day: 1, weekday: 4, yearDay: 1}
	for {
		look(c)
		c.number++
		c.day++
		c.yearDay++
		c.weekday++
		if c.weekday == 7 {
			c.weekday = 0
			c.week++
			c.weekStart = c.number
		}
		if c.day > lengthOfMonth(c.year, c.month) {
			c.day = 1
			c.month++
			c.months++
			c.monthStart = c.number
		}
		if c.month > 12 {
			c.month = 1
			c.year++
			c.yearDay = 1
			c.yearStart = c.number
		}
		if c.year > 9999 {
			return
		}
	}
}

func TestConstantsOfDays(t *testing.T) {
	if impl.MaxTime != 253402300799 {
		t.Error("MaxTime is", impl.MaxTime)
	}
	for want, kind := range periodKinds {
		if kind != want {
			t.Errorf("kind %d of periods is %d", want, kind)
		}
	}
}

func TestMonthDays(t *testing.T) {
	for year := 1; year <= 9999; year++ {
		for month := 1; month <= 12; month++ {
			if got, want := impl.MonthDays(year, month), lengthOfMonth(year, month); got != want {
				t.Errorf("MonthDays(%d, %d) = %d, want %d", year, month, got, want)
			}
		}
	}
	for year, want := range map[int]int{1: 28, 4: 29, 100: 28, 400: 29, 1900: 28, 1972: 29, 1973: 28, 2000: 29, 2023: 28, 2024: 29, 2100: 28, 2200: 28, 2300: 28, 2400: 29, 9996: 29, 9999: 28} {
		if got := impl.MonthDays(year, 2); got != want {
			t.Errorf("MonthDays(%d, 2) = %d, want %d", year, got, want)
		}
	}
}

func TestMonthDaysOfNoMonth(t *testing.T) {
	for _, year := range []int{1, 1970, 2000, 9999, 0, -1, 10000, math.MinInt, math.MaxInt} {
		for _, month := range []int{0, -1, 13, 14, math.MinInt, math.MaxInt} {
			if got := impl.MonthDays(year, month); got != 0 {
				t.Errorf("MonthDays(%d, %d) = %d, want 0", year, month, got)
			}
		}
	}
	for _, year := range []int{0, -1, -4, -400, 10000, 10004, 12000, math.MinInt, math.MaxInt} {
		for month := 1; month <= 12; month++ {
			if got := impl.MonthDays(year, month); got != 0 {
				t.Errorf("MonthDays(%d, %d) = %d, want 0", year, month, got)
			}
		}
	}
}

func TestDateOkOfDays(t *testing.T) {
	for _, year := range []int{1970, 1972, 1973, 2000, 2023, 2024, 2100, 2400, 9999} {
		for month := 1; month <= 12; month++ {
			for day := -1; day <= 33; day++ {
				d := impl.Date{Year: year, Month: month, Day: day}
				want := day >= 1 && day <= lengthOfMonth(year, month)
				if got := impl.DateOk(d); got != want {
					t.Errorf("DateOk(%v) = %v", d, got)
				}
			}
		}
	}
}

// fieldsOf gives each field of a Date with its name, to change one alone.
func fieldsOf(d *impl.Date) map[string]*int {
	return map[string]*int{"Year": &d.Year, "Month": &d.Month, "Day": &d.Day, "Hour": &d.Hour, "Minute": &d.Minute, "Second": &d.Second}
}

func TestDatesWithOneFieldAtItsLimit(t *testing.T) {
	limits := map[string][2]int{"Year": {1970, 9999}, "Month": {1, 12}, "Day": {1, 31}, "Hour": {0, 23}, "Minute": {0, 59}, "Second": {0, 59}}
	for name, limit := range limits {
		for value, want := range map[int]bool{
			limit[0]: true, limit[1]: true, limit[0] - 1: false, limit[1] + 1: false,
			math.MinInt: false, math.MaxInt: false,
		} {
			d := impl.Date{Year: 2025, Month: 7, Day: 16, Hour: 8, Minute: 30, Second: 15}
			*fieldsOf(&d)[name] = value
			if got := impl.DateOk(d); got != want {
				t.Errorf("DateOk(%v) = %v", d, got)
			}
			if got := impl.TimeOf(d); (got >= 0) != want || !want && got != -1 {
				t.Errorf("TimeOf(%v) = %d", d, got)
			}
		}
	}
}

func TestDatesThatAreNotRight(t *testing.T) {
	for _, d := range []impl.Date{
		{}, {Year: 1970}, {Year: 1970, Month: 1}, {Year: 1970, Day: 1}, {Month: 1, Day: 1},
		{Year: 1969, Month: 12, Day: 31, Hour: 23, Minute: 59, Second: 59}, {Year: 1969, Month: 1, Day: 1}, {Year: 1, Month: 1, Day: 1},
		{Year: 10000, Month: 1, Day: 1}, {Year: -1970, Month: 1, Day: 1},
		{Year: 2023, Month: 2, Day: 29}, {Year: 2100, Month: 2, Day: 29}, {Year: 2000, Month: 2, Day: 30}, {Year: 2024, Month: 4, Day: 31},
		{Year: 2024, Month: 1, Day: 1, Hour: 24}, {Year: 2024, Month: 1, Day: 1, Minute: 60}, {Year: 2024, Month: 1, Day: 1, Second: 60},
		{Year: 2016, Month: 12, Day: 31, Hour: 23, Minute: 59, Second: 60}, {Year: 2024, Month: 1, Day: 1, Hour: -1, Minute: 60},
		{Year: math.MaxInt, Month: math.MaxInt, Day: math.MaxInt, Hour: math.MaxInt, Minute: math.MaxInt, Second: math.MaxInt},
		{Year: math.MinInt, Month: math.MinInt, Day: math.MinInt, Hour: math.MinInt, Minute: math.MinInt, Second: math.MinInt},
	} {
		if impl.DateOk(d) {
			t.Errorf("DateOk(%v)", d)
		}
		if got := impl.TimeOf(d); got != -1 {
			t.Errorf("TimeOf(%v) = %d, want -1", d, got)
		}
	}
}

func TestNoTimesHaveNoDate(t *testing.T) {
	for _, n := range noTimes {
		if got := impl.DateOf(n); got != (impl.Date{}) {
			t.Errorf("DateOf(%d) = %v", n, got)
		}
		if got := impl.Weekday(n); got != -1 {
			t.Errorf("Weekday(%d) = %d, want -1", n, got)
		}
		if got := impl.YearDay(n); got != 0 {
			t.Errorf("YearDay(%d) = %d, want 0", n, got)
		}
	}
}

func TestEdgesOfTimes(t *testing.T) {
	for _, c := range []struct {
		t, weekday, yearDay int
		d                   impl.Date
	}{
		{0, 4, 1, impl.Date{Year: 1970, Month: 1, Day: 1}},
		{1, 4, 1, impl.Date{Year: 1970, Month: 1, Day: 1, Second: 1}},
		{59, 4, 1, impl.Date{Year: 1970, Month: 1, Day: 1, Second: 59}},
		{60, 4, 1, impl.Date{Year: 1970, Month: 1, Day: 1, Minute: 1}},
		{3599, 4, 1, impl.Date{Year: 1970, Month: 1, Day: 1, Minute: 59, Second: 59}},
		{3600, 4, 1, impl.Date{Year: 1970, Month: 1, Day: 1, Hour: 1}},
		{86399, 4, 1, impl.Date{Year: 1970, Month: 1, Day: 1, Hour: 23, Minute: 59, Second: 59}},
		{86400, 5, 2, impl.Date{Year: 1970, Month: 1, Day: 2}},
		{259199, 6, 3, impl.Date{Year: 1970, Month: 1, Day: 3, Hour: 23, Minute: 59, Second: 59}},
		{259200, 0, 4, impl.Date{Year: 1970, Month: 1, Day: 4}},
		{31535999, 4, 365, impl.Date{Year: 1970, Month: 12, Day: 31, Hour: 23, Minute: 59, Second: 59}},
		{31536000, 5, 1, impl.Date{Year: 1971, Month: 1, Day: 1}},
		{68169599, 1, 59, impl.Date{Year: 1972, Month: 2, Day: 28, Hour: 23, Minute: 59, Second: 59}},
		{68169600, 2, 60, impl.Date{Year: 1972, Month: 2, Day: 29}},
		{68256000, 3, 61, impl.Date{Year: 1972, Month: 3, Day: 1}},
		{94694399, 0, 366, impl.Date{Year: 1972, Month: 12, Day: 31, Hour: 23, Minute: 59, Second: 59}},
		{951782400, 2, 60, impl.Date{Year: 2000, Month: 2, Day: 29}},
		{4107542399, 0, 59, impl.Date{Year: 2100, Month: 2, Day: 28, Hour: 23, Minute: 59, Second: 59}},
		{4107542400, 1, 60, impl.Date{Year: 2100, Month: 3, Day: 1}},
		{impl.MaxTime, 5, 365, impl.Date{Year: 9999, Month: 12, Day: 31, Hour: 23, Minute: 59, Second: 59}},
	} {
		if got := impl.DateOf(c.t); got != c.d {
			t.Errorf("DateOf(%d) = %v, want %v", c.t, got, c.d)
		}
		if got := impl.TimeOf(c.d); got != c.t {
			t.Errorf("TimeOf(%v) = %d, want %d", c.d, got, c.t)
		}
		if got := impl.Weekday(c.t); got != c.weekday {
			t.Errorf("Weekday(%d) = %d, want %d", c.t, got, c.weekday)
		}
		if got := impl.YearDay(c.t); got != c.yearDay {
			t.Errorf("YearDay(%d) = %d, want %d", c.t, got, c.yearDay)
		}
	}
}

func TestEveryDayHasItsDate(t *testing.T) {
	last := 0
	everyDay(func(c calendarDay) {
		begin := c.number * 86400
		last = begin + 86399
		first := impl.Date{Year: c.year, Month: c.month, Day: c.day}
		end := first
		end.Hour, end.Minute, end.Second = 23, 59, 59
		if impl.DateOf(begin) != first || impl.DateOf(last) != end {
			t.Fatalf("day %v: dates %v and %v", c, impl.DateOf(begin), impl.DateOf(last))
		}
		if impl.TimeOf(first) != begin || impl.TimeOf(end) != last {
			t.Fatalf("day %v: times %d and %d", c, impl.TimeOf(first), impl.TimeOf(end))
		}
		if impl.Weekday(begin) != c.weekday || impl.Weekday(last) != c.weekday {
			t.Fatalf("day %v: weekdays %d and %d", c, impl.Weekday(begin), impl.Weekday(last))
		}
		if impl.YearDay(begin) != c.yearDay || impl.YearDay(last) != c.yearDay {
			t.Fatalf("day %v: days of the year %d and %d", c, impl.YearDay(begin), impl.YearDay(last))
		}
	})
	if last != impl.MaxTime {
		t.Errorf("the last second is %d", last)
	}
}

func TestEverySecondOfSomeDays(t *testing.T) {
	for _, day := range []int{0, 1, 789, 11016, 20408, 47540, 2932896} {
		for second := range 86400 {
			n := day*86400 + second
			d := impl.DateOf(n)
			if d.Hour != second/3600 || d.Minute != second/60%60 || d.Second != second%60 || !impl.DateOk(d) || impl.TimeOf(d) != n {
				t.Fatalf("DateOf(%d) = %v", n, d)
			}
		}
	}
}

func TestDatesAreThoseOfGo(t *testing.T) {
	for n := 0; n <= impl.MaxTime; n += 1234567 {
		u := time.Unix(int64(n), 0).UTC()
		want := impl.Date{Year: u.Year(), Month: int(u.Month()), Day: u.Day(), Hour: u.Hour(), Minute: u.Minute(), Second: u.Second()}
		if got := impl.DateOf(n); got != want {
			t.Fatalf("DateOf(%d) = %v, want %v", n, got, want)
		}
		if impl.Weekday(n) != int(u.Weekday()) || impl.YearDay(n) != u.YearDay() {
			t.Fatalf("time %d: day %d of the week, %d of the year", n, impl.Weekday(n), impl.YearDay(n))
		}
	}
}

func TestPeriodsAtTheirEdges(t *testing.T) {
	for _, c := range []struct{ kind, t, number, start int }{
		{impl.PHour, 0, 0, 0}, {impl.PHour, 3599, 0, 0}, {impl.PHour, 3600, 1, 3600}, {impl.PHour, impl.MaxTime, 70389527, 253402297200},
		{impl.PDay, 0, 0, 0}, {impl.PDay, 86399, 0, 0}, {impl.PDay, 86400, 1, 86400}, {impl.PDay, impl.MaxTime, 2932896, 253402214400},
		{impl.PWeek, 0, 0, 0}, {impl.PWeek, 86400, 0, 0}, {impl.PWeek, 259199, 0, 0}, {impl.PWeek, 259200, 1, 259200},
		{impl.PWeek, 863999, 1, 259200}, {impl.PWeek, 864000, 2, 864000}, {impl.PWeek, impl.MaxTime, 418985, 253401782400},
		{impl.PMonth, 0, 0, 0}, {impl.PMonth, 2678399, 0, 0}, {impl.PMonth, 2678400, 1, 2678400}, {impl.PMonth, 68255999, 25, 65750400},
		{impl.PMonth, 68256000, 26, 68256000}, {impl.PMonth, impl.MaxTime, 96359, 253399622400},
		{impl.PYear, 0, 0, 0}, {impl.PYear, 31535999, 0, 0}, {impl.PYear, 31536000, 1, 31536000}, {impl.PYear, impl.MaxTime, 8029, 253370764800},
	} {
		if got := impl.PeriodOf(c.kind, c.t); got != c.number {
			t.Errorf("PeriodOf(%d, %d) = %d, want %d", c.kind, c.t, got, c.number)
		}
		if got := impl.PeriodStart(c.kind, c.t); got != c.start {
			t.Errorf("PeriodStart(%d, %d) = %d, want %d", c.kind, c.t, got, c.start)
		}
	}
}

func TestNoPeriods(t *testing.T) {
	refused := func(kind, n int) {
		if got := impl.PeriodOf(kind, n); got != -1 {
			t.Errorf("PeriodOf(%d, %d) = %d, want -1", kind, n, got)
		}
		if got := impl.PeriodStart(kind, n); got != -1 {
			t.Errorf("PeriodStart(%d, %d) = %d, want -1", kind, n, got)
		}
	}
	for _, kind := range noKinds {
		for _, n := range append([]int{0, 1, 86400, 1763280000, impl.MaxTime}, noTimes...) {
			refused(kind, n)
		}
	}
	for _, kind := range periodKinds {
		for _, n := range noTimes {
			refused(kind, n)
		}
	}
}

func TestEveryDayHasItsPeriods(t *testing.T) {
	everyDay(func(c calendarDay) {
		numbers := []int{c.number * 24, c.number, c.week, c.months, c.year - 1970}
		starts := []int{c.number * 24 * 3600, c.number * 86400, c.weekStart * 86400, c.monthStart * 86400, c.yearStart * 86400}
		for _, kind := range periodKinds {
			n := c.number * 86400
			if impl.PeriodOf(kind, n) != numbers[kind] || impl.PeriodStart(kind, n) != starts[kind] {
				t.Fatalf("day %v: period %d of kind %d begins at %d", c, impl.PeriodOf(kind, n), kind, impl.PeriodStart(kind, n))
			}
			n += 86399
			if kind == impl.PHour {
				numbers[kind] += 23
				starts[kind] += 23 * 3600
			}
			if impl.PeriodOf(kind, n) != numbers[kind] || impl.PeriodStart(kind, n) != starts[kind] {
				t.Fatalf("last second of day %v: period %d of kind %d begins at %d", c, impl.PeriodOf(kind, n), kind, impl.PeriodStart(kind, n))
			}
		}
	})
}

func TestPeriodsBeginAtTheirStart(t *testing.T) {
	look := func(n int) {
		for _, kind := range periodKinds {
			number, start := impl.PeriodOf(kind, n), impl.PeriodStart(kind, n)
			if start < 0 || start > n || impl.PeriodOf(kind, start) != number || impl.PeriodStart(kind, start) != start {
				t.Fatalf("period %d of kind %d of time %d begins at %d", number, kind, n, start)
			}
			if start == 0 && number != 0 || start > 0 && impl.PeriodOf(kind, start-1) != number-1 {
				t.Fatalf("kind %d: the second ahead of %d isn't in the period ahead of %d", kind, start, number)
			}
		}
	}
	for n := 0; n <= impl.MaxTime; n += 2345678 {
		look(n)
	}
	for n := range 400000 {
		look(n)
		look(impl.MaxTime - n)
	}
}
