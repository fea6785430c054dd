package history_test

import (
	"math/rand"
	"slices"
	"testing"

	"bogie/api"
	"bogie/course"
	"bogie/history"
	"bogie/link"
	"bogie/report"
	"bogie/sample"
)

var kinds = sample.Kinds()

func TestValues(t *testing.T) { // P15.1
	l := sample.Reports("make 0 a1 axle | make 3 a1 axle; ? scrap 2 a1")
	for _, c := range []struct {
		choice []int
		fails  int
		err    api.Errno
	}{
		{[]int{0, 0}, -1, api.OK}, {[]int{0, 1}, -1, api.OK}, {[]int{1, 1}, -1, api.OK}, {[]int{1, 0}, 1, api.ErrNone},
		{nil, -1, api.ErrArg}, {[]int{0}, -1, api.ErrArg}, {[]int{0, 0, 0}, -1, api.ErrArg}, {[]int{2, 0}, -1, api.ErrArg}, {[]int{0, 2}, -1, api.ErrArg}, {[]int{-1, 0}, -1, api.ErrArg}, {[]int{-2, 0}, -1, api.ErrArg},
	} {
		at, err := history.Fails(kinds, l, c.choice)
		if at != c.fails || err != c.err || history.Is(kinds, l, c.choice) != (c.err == api.OK) {
			t.Error(c, at, err)
		}
	}
	for _, c := range []struct {
		choice []int
		want   bool
	}{{[]int{-1, 0}, false}, {[]int{1, -1}, false}, {[]int{1, 0}, true}, {[]int{0, 0}, false}, {[]int{-1, -1}, false}, {nil, false}, {[]int{1, 3}, false}, {[]int{1, -2}, false}, {[]int{2, 0}, false}} {
		if history.False(kinds, l, c.choice) != c.want {
			t.Error(c)
		}
	}
	// What an open report may show on a day, or later, is not looked at; what is before, is.
	l = sample.Reports("scrap 2 a1 | scrap 4 a1; ? make 3 b axle | overhaul 4 c; make 1 d bus")
	for _, c := range []struct {
		choice []int
		want   bool
	}{{[]int{0, -1, 0}, true}, {[]int{-1, -1, 0}, true}, {[]int{-1, 2, 0}, true}} {
		if history.False(kinds, l, c.choice) != c.want {
			t.Error(c)
		}
	}
	l = l[:2]
	for _, c := range []struct {
		choice []int
		want   bool
	}{{[]int{0, -1}, true}, {[]int{1, -1}, false}, {[]int{-1, 1}, false}, {[]int{-1, 0}, false}} {
		if history.False(kinds, l, c.choice) != c.want {
			t.Error(c)
		}
	}
	// The first event of the course counts, not that of the list.
	l = sample.Reports("scrap 5 b; make 1 a axle; scrap 4 c; make 1 a axle; make 1 b axle")
	if at, err := history.Fails(kinds, l, []int{0, 0, 0, 0, 0}); at != 3 || err != api.ErrTwice {
		t.Error(at, err)
	}
	// All days of open reports count, in whatever order their options stand.
	for i, c := range []struct {
		texts string
		want  bool
	}{{"make 5 a axle | make 1 a axle; scrap 3 a", false}, {"make 1 a axle | make 5 a axle; scrap 3 a", false}, {"make 5 a axle | make 4 a axle; scrap 3 a", true}, {"? make 9 b axle; make 5 a axle | make 2 a axle; scrap 3 a", false}} {
		l := sample.Reports(c.texts)
		choice := slices.Repeat([]int{-1}, len(l))
		choice[len(l)-1] = 0
		if history.False(kinds, l, choice) != c.want {
			t.Error(i)
		}
	}
	// The last day is one like any other.
	l = sample.Reports("make 40000 a axle; ? make 40000 a axle; ? scrap 40000 b")
	if history.Is(kinds, l, []int{0, 0, 1}) || !history.Is(kinds, l, []int{0, 1, 1}) || !history.False(kinds, l, []int{0, 0, 1}) || history.False(kinds, l, []int{0, 0, -1}) {
		t.Error("the last day")
	}
	bad := append(sample.Reports("make 1 a axle"), api.Report{})
	for _, choice := range [][]int{{0, 0}, {0, -1}} {
		if at, err := history.Fails(kinds, bad, choice); at != -1 || err != api.ErrArg || history.False(kinds, bad, choice) || history.Is(kinds, bad, choice) {
			t.Error(at, err)
		}
	}
	if at, err := history.Fails(api.Catalog{Kinds: []api.Kind{{}}}, nil, nil); at != -1 || err != api.ErrArg || history.False(api.Catalog{Kinds: []api.Kind{{}}}, nil, nil) {
		t.Error(at, err)
	}
	if !history.Is(kinds, nil, nil) || history.False(kinds, nil, nil) {
		t.Error("no reports")
	}
}

// each calls a function with random reports and all choices for them.
func each(seed int64, times int, check func(r *rand.Rand, l []api.Report, choice []int)) {
	r := rand.New(rand.NewSource(seed))
	for range times {
		l := sample.RandomReports(r.Intn, 8, 4)
		choice := make([]int, len(l))
		for i := 0; i < len(l); {
			check(r, l, slices.Clone(choice))
			for i = 0; i < len(l); i++ {
				choice[i]++
				if choice[i] < report.Choices(l[i]) {
					break
				}
				choice[i] = 0
			}
		}
	}
}

func TestErrors(t *testing.T) { // P15.2
	found := map[bool]int{}
	each(1, 100, func(_ *rand.Rand, l []api.Report, choice []int) {
		at, err := history.Fails(kinds, l, choice)
		picked, _ := report.Picked(l, choice)
		_, index, want := course.Run(kinds, picked)
		found[err == api.OK]++
		if err != want || history.Is(kinds, l, choice) != (err == api.OK) || (err == api.OK) != (at == -1) {
			t.Fatal(l, choice, at, err)
		}
		if err == api.OK {
			return
		}
		e := course.Sort(picked)[index]
		if choice[at] >= len(l[at].Options) || l[at].Options[choice[at]] != e {
			t.Fatal(l, choice, at, e)
		}
		// Without the events that come behind it, it is the same one.
		var before []api.Report
		var fewer []int
		place := -1
		for i, r := range l {
			if choice[i] == len(r.Options) {
				continue
			}
			if d := r.Options[choice[i]].Day; d < e.Day || d == e.Day && i <= at {
				if i == at {
					place = len(before)
				}
				before, fewer = append(before, r), append(fewer, choice[i])
			}
		}
		if at2, err2 := history.Fails(kinds, before, fewer); at2 != place || err2 != err {
			t.Fatal(l, choice, at2, err2)
		}
	})
	if found[true] < 20 || found[false] < 20 {
		t.Error("too few cases:", found)
	}
}

func TestNoWayOut(t *testing.T) { // P15.3, P15.4 and P15.5
	falses := 0
	each(2, 60, func(r *rand.Rand, l []api.Report, choice []int) {
		is := history.Is(kinds, l, choice)
		if history.False(kinds, l, choice) == is {
			t.Fatal("all decided:", l, choice)
		}
		part := slices.Clone(choice)
		for range len(part) { // more and more is open
			part[r.Intn(len(part))] = -1
			before := history.False(kinds, l, part)
			if before {
				falses++
			}
			if before && is {
				t.Fatal("a way out:", l, part, choice)
			}
			more := slices.Clone(part)
			i := r.Intn(len(more))
			more[i] = choice[i]
			if before && !history.False(kinds, l, more) {
				t.Fatal("a further decision:", l, part, more)
			}
		}
	})
	if falses < 50 {
		t.Error("too few cases:", falses)
	}
}

func TestNothingHappened(t *testing.T) { // P15.6
	each(3, 40, func(r *rand.Rand, l []api.Report, choice []int) {
		i := r.Intn(len(l))
		if !l[i].Doubtful {
			return
		}
		choice[i] = len(l[i].Options)
		rest, fewer := slices.Delete(slices.Clone(l), i, i+1), slices.Delete(slices.Clone(choice), i, i+1)
		at, err := history.Fails(kinds, l, choice)
		at2, err2 := history.Fails(kinds, rest, fewer)
		if at2 >= i {
			at2++
		}
		if at != at2 || err != err2 {
			t.Fatal(l, choice, i)
		}
	})
}

func TestApart(t *testing.T) { // P15.7
	each(4, 40, func(r *rand.Rand, l []api.Report, choice []int) {
		own := link.Components(l)[0]
		var a, b []api.Report
		var x, y []int
		for i := range l {
			if slices.Contains(own, i) {
				a, x = append(a, l[i]), append(x, choice[i])
			} else {
				b, y = append(b, l[i]), append(y, choice[i])
			}
		}
		if history.Is(kinds, append(a, b...), append(x, y...)) != (history.Is(kinds, a, x) && history.Is(kinds, b, y)) {
			t.Fatal(l, choice)
		}
	})
}

func TestOrder(t *testing.T) { // P15.8
	each(5, 40, func(r *rand.Rand, l []api.Report, choice []int) {
		for range 5 {
			i, j := r.Intn(len(l)), r.Intn(len(l))
			day := func(k int) int {
				if choice[k] == len(l[k].Options) {
					return -1 - k
				}
				return l[k].Options[choice[k]].Day
			}
			if i+1 != j || day(i) == day(j) { // neighbours only: others may have events of these days between
				continue
			}
			other, changed := slices.Clone(l), slices.Clone(choice)
			other[i], other[j] = other[j], other[i]
			changed[i], changed[j] = changed[j], changed[i]
			if history.Is(kinds, l, choice) != history.Is(kinds, other, changed) {
				t.Fatal(l, choice, i, j)
			}
		}
	})
}
