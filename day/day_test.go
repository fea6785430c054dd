package day_test

import (
	"math"
	"math/rand"
	"testing"
	"time"

	"bogie/api"
	"bogie/day"
)

// The calendar of the language's library has the same dates.
func date(n int) time.Time { return time.Date(2000, 1, 1+n, 0, 0, 0, 0, time.UTC) }

func TestDate(t *testing.T) { // P6.1: F1
	for n := range api.MaxDay + 1 {
		y, m, d, err := day.Date(n)
		if w := date(n); y != w.Year() || m != int(w.Month()) || d != w.Day() || err != api.OK {
			t.Fatal(n, y, m, d, err)
		}
	}
	for _, n := range []int{-1, api.MaxDay + 1, math.MinInt, math.MaxInt} {
		if y, m, d, err := day.Date(n); y != 0 || m != 0 || d != 0 || err != api.ErrRange {
			t.Error(n, y, m, d, err)
		}
	}
}

func TestNumber(t *testing.T) { // P6.2, and P6.1: F1
	for n := 0; n <= api.MaxDay; n += 7 {
		y, m, d, _ := day.Date(n)
		if got, err := day.Number(y, m, d); got != n || err != api.OK {
			t.Fatal(n, got, err)
		}
	}
	for _, c := range []struct {
		y, m, d, n int
		err        api.Errno
	}{
		{2000, 1, 1, 0, 0}, {2000, 2, 29, 59, 0}, {2109, 7, 8, 40000, 0}, {2109, 7, 9, 0, api.ErrRange}, {1999, 12, 31, 0, api.ErrRange}, {2110, 1, 1, 0, api.ErrRange},
		{2100, 2, 29, 0, api.ErrArg}, {2001, 2, 29, 0, api.ErrArg}, {2001, 2, 28, 424, 0}, {1900, 2, 29, 0, api.ErrArg}, {2400, 2, 29, 0, api.ErrRange}, {-4, 2, 29, 0, api.ErrRange}, {-1, 2, 29, 0, api.ErrArg},
		{2001, 0, 1, 0, api.ErrArg}, {2001, 13, 1, 0, api.ErrArg}, {2001, 1, 0, 0, api.ErrArg}, {2001, 1, 32, 0, api.ErrArg}, {2001, 4, 31, 0, api.ErrArg}, {1, 4, 31, 0, api.ErrArg},
		{math.MaxInt, 1, 31, 0, api.ErrRange}, {math.MinInt, 12, 31, 0, api.ErrRange}, {math.MaxInt, math.MinInt, 1, 0, api.ErrArg},
	} {
		if n, err := day.Number(c.y, c.m, c.d); n != c.n || err != c.err {
			t.Error(c, n, err)
		}
	}
}

func TestNextDay(t *testing.T) { // P6.3
	for n := range api.MaxDay {
		y, m, d, _ := day.Date(n)
		y2, m2, d2, _ := day.Date(n + 1)
		_, err := day.Number(y, m, d+1)
		same := y2 == y && m2 == m && d2 == d+1 && err == api.OK
		first := d2 == 1 && 12*y2+m2 == 12*y+m+1 && err == api.ErrArg
		if !same && !first {
			t.Fatal(n)
		}
	}
}

func TestOrder(t *testing.T) { // P6.4
	last := ""
	for n := range api.MaxDay + 1 {
		s, _ := day.Text(n)
		if s <= last {
			t.Fatal(n, s, last)
		}
		last = s
	}
}

func TestTexts(t *testing.T) { // P6.5, and P6.1: F2
	for n := range api.MaxDay + 1 {
		s, err := day.Text(n)
		if s != date(n).Format("2006-01-02") || err != api.OK {
			t.Fatal(n, s, err)
		}
		if got, err := day.Parse(s); got != n || err != api.OK {
			t.Fatal(n, got, err)
		}
	}
	for _, n := range []int{-1, api.MaxDay + 1} {
		if s, err := day.Text(n); s != "" || err != api.ErrRange {
			t.Error(n, s, err)
		}
	}
	for _, s := range []string{"", "2000-1-01", "2000-01-1", "2000-01-001", "2000-02-30", "2000/01/01", "1999-12-31", "2109-07-09", "+200-01-01", "2000-+1-01", "2000-01-+1", "2000 01 01", "2000-01-01 ", " 000-01-01", "2000-00-01", "2000-01-00", "200a-01-01", "2000-0a-01", "xxxx-xx-xx", "2000-13-01"} {
		if n, err := day.Parse(s); n != 0 || err != api.ErrSyntax {
			t.Error(s, n, err)
		}
	}
}

func TestMonths(t *testing.T) { // P6.6, and P6.1: F3
	r := rand.New(rand.NewSource(1))
	for range 5000 {
		n, months := r.Intn(api.MaxDay+1), r.Intn(3000)-1500
		y, m, d, _ := day.Date(n)
		first := time.Date(y, time.Month(m+months), 1, 0, 0, 0, 0, time.UTC)
		want := min(d, first.AddDate(0, 1, -1).Day())
		there, err := day.Months(n, months)
		number, outside := day.Number(first.Year(), int(first.Month()), want)
		if there != number || err != outside {
			t.Fatal(n, months, there, err)
		}
		if same, err := day.Months(n, 0); same != n || err != api.OK {
			t.Fatal(n, same)
		}
		if err != api.OK {
			continue
		}
		if back, err := day.Months(there, -months); err != api.OK || back > n || back < n-3 {
			t.Fatal(n, months, there, back, err)
		}
	}
	for _, c := range [][4]int{{30, 1, 59, 0}, {59, 12, 424, 0}, {0, -1, 0, int(api.ErrRange)}, {40000, 1, 0, int(api.ErrRange)}, {39999, 0, 39999, 0}, {-1, 0, 0, int(api.ErrRange)}, {40001, -1, 0, int(api.ErrRange)},
		{0, 12001, 0, int(api.ErrRange)}, {0, -12001, 0, int(api.ErrRange)}, {0, -12000, 0, int(api.ErrRange)}, {40000, -1314, 7, 0}, {0, math.MaxInt, 0, int(api.ErrRange)}, {0, math.MinInt, 0, int(api.ErrRange)}} {
		if n, err := day.Months(c[0], c[1]); n != c[2] || int(err) != c[3] {
			t.Error(c, n, err)
		}
	}
}

func TestLeapDays(t *testing.T) { // P6.7
	for year := 1600; year <= 2800; year++ {
		_, err := day.Number(year, 2, 29)
		_, later := day.Number(year+400, 2, 29)
		if (err == api.ErrArg) != (later == api.ErrArg) || (err == api.ErrArg) != (time.Date(year, 2, 29, 0, 0, 0, 0, time.UTC).Month() != 2) {
			t.Error(year, err, later)
		}
	}
}
