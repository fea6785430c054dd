package course_test

import (
	"math"
	"math/rand"
	"slices"
	"testing"

	"bogie/api"
	"bogie/course"
	"bogie/event"
	"bogie/fleet"
	"bogie/sample"
)

var kinds = sample.Kinds()

func TestSort(t *testing.T) { // P11.1: K1
	l := sample.Events("fit 5 a w axle; make 1 w wheelset; make 1 a axle; scrap 9 a; remove 5 a; make 0 c coach")
	l = append(l, api.Event{Day: -7}, api.Event{Day: math.MaxInt, Part: "?"}, api.Event{Day: math.MinInt})
	before := slices.Clone(l)
	got := course.Sort(l)
	want := []api.Event{l[8], l[6], l[5], l[1], l[2], l[0], l[4], l[3], l[7]}
	if !slices.Equal(got, want) || !slices.Equal(before, l) {
		t.Error(got)
	}
	got[0].Part = "x"
	if !slices.Equal(before, l) || len(course.Sort(nil)) != 0 {
		t.Error("changed")
	}
}

func TestRun(t *testing.T) { // P11.1: K2
	s, at, err := course.Run(kinds, sample.Events("fit 5 a w axle; make 1 a axle; make 1 w wheelset"))
	if p, _ := fleet.Find(s, "a"); p.Into != "w" || at != -1 || err != api.OK {
		t.Error(s, at, err)
	}
	for _, c := range []struct {
		texts string
		at    int
		err   api.Errno
	}{
		{"fit 1 a w axle; make 1 a axle; make 1 w wheelset", 0, api.ErrNone}, {"make 3 a axle; make 1 a bus", 0, api.ErrKind}, {"make 3 a axle; make 1 a axle; scrap 2 a", 2, api.ErrTwice}, {"scrap 7 a; make 1 a axle; scrap 2 a; overhaul 3 a", 2, api.ErrState},
	} {
		if s, at, err := course.Run(kinds, sample.Events(c.texts)); at != c.at || err != c.err || len(s.Parts) != 0 {
			t.Error(c, at, err)
		}
	}
	if _, at, err := course.Run(kinds, []api.Event{{Day: 5}, sample.Event("make 1 a axle")}); at != 1 || err != api.ErrArg {
		t.Error(at, err)
	}
	bad := api.Catalog{Kinds: []api.Kind{{}}}
	for _, l := range [][]api.Event{nil, sample.Events("make 1 a axle")} {
		if s, at, err := course.Run(bad, l); at != -1 || err != api.ErrArg || len(s.Parts) != 0 {
			t.Error(at, err)
		}
		if _, at, err := course.At(bad, l, 0); at != -1 || err != api.ErrArg {
			t.Error(at, err)
		}
	}
	if s, at, err := course.Run(api.Catalog{}, nil); at != -1 || err != api.OK || len(s.Parts) != 0 {
		t.Error(s, at, err)
	}
}

func TestAt(t *testing.T) { // P11.1: K3
	l := sample.Events("fit 5 m1 v1 m; make 1 m1 motor; make 1 v1 coach; scrap 6 m1")
	s, at, err := course.At(kinds, l, 4)
	if p, ok := fleet.Find(s, "m1"); !ok || p.Into != "" || len(s.Parts) != 2 || at != -1 || err != api.OK {
		t.Error(s, at, err)
	}
	if s, _, _ := course.At(kinds, l, 5); fleet.Root(s, "m1") != "v1" {
		t.Error(s)
	}
	if _, at, err := course.At(kinds, l, 6); at != 3 || err != api.ErrState {
		t.Error(at, err)
	}
	for _, day := range []int{0, -1, math.MinInt} {
		if s, at, err := course.At(kinds, l, day); len(s.Parts) != 0 || at != -1 || err != api.OK {
			t.Error(day, s, at, err)
		}
	}
}

// possible returns random events that are possible, in order.
func possible(r *rand.Rand) []api.Event {
	var l []api.Event
	s := api.State{}
	for _, e := range course.Sort(sample.RandomEvents(r.Intn, 30)) {
		if next, err := fleet.Apply(kinds, s, e); err == api.OK {
			s = next
			l = append(l, e)
		}
	}
	return l
}

func TestOrder(t *testing.T) { // P11.2
	r := rand.New(rand.NewSource(1))
	for range 300 {
		l := sample.RandomEvents(r.Intn, 20)
		for i := range l {
			l[i].Day = r.Intn(5)
		}
		got := course.Sort(l)
		if !slices.IsSortedFunc(got, func(a, b api.Event) int { return a.Day - b.Day }) || !slices.Equal(course.Sort(got), got) {
			t.Fatal(got)
		}
		for day := range 5 { // the same events, those of one day in the same order
			on := func(l []api.Event) []api.Event {
				return slices.DeleteFunc(slices.Clone(l), func(e api.Event) bool { return e.Day != day })
			}
			if !slices.Equal(on(l), on(got)) {
				t.Fatal(l, got)
			}
		}
	}
}

func TestSteps(t *testing.T) { // P11.3
	r := rand.New(rand.NewSource(2))
	for range 100 {
		l := possible(r)
		n := r.Intn(len(l))
		for n > 0 && l[n-1].Day == l[n].Day {
			n--
		}
		s, _, err := course.Run(kinds, l[:n])
		if err != api.OK {
			t.Fatal(err)
		}
		for _, e := range l[n:] {
			s, err = fleet.Apply(kinds, s, e)
			if err != api.OK {
				t.Fatal(err)
			}
		}
		all, _, _ := course.Run(kinds, l)
		if !fleet.Same(s, all) {
			t.Fatal(l)
		}
	}
}

func TestDays(t *testing.T) { // P11.4
	r := rand.New(rand.NewSource(3))
	for range 60 {
		l := sample.RandomEvents(r.Intn, 12)
		s, at, err := course.Run(kinds, l)
		for _, day := range []int{14, 15, api.MaxDay, math.MaxInt} {
			if s2, at2, err2 := course.At(kinds, l, day); !fleet.Same(s, s2) || at2 != at || err2 != err {
				t.Fatal(l, day)
			}
		}
		failed, where := api.OK, -1
		for day := range 15 {
			_, at, err := course.At(kinds, l, day)
			if failed != api.OK && (err != failed || at != where) {
				t.Fatal(l, day)
			}
			failed, where = err, at
		}
	}
}

func TestAnotherOrder(t *testing.T) { // P11.5
	r := rand.New(rand.NewSource(4))
	for range 100 {
		l := possible(r)
		for i := range l {
			l[i].Day = i
		}
		other := slices.Clone(l)
		r.Shuffle(len(other), func(i, j int) { other[i], other[j] = other[j], other[i] })
		if !slices.Equal(course.Sort(l), course.Sort(other)) {
			t.Fatal(l, other)
		}
	}
}

func TestOthers(t *testing.T) { // P11.6
	r := rand.New(rand.NewSource(5))
	for range 200 {
		l := possible(r)
		for i := range l {
			l[i].Day = 3
		}
		s, _, _ := course.Run(kinds, l)
		i := r.Intn(len(l) - 1)
		names := event.Names(l[i])
		common := slices.ContainsFunc(event.Names(l[i+1]), func(n string) bool { return slices.Contains(names, n) })
		if common || l[i].Op == api.OpRemove || l[i+1].Op == api.OpRemove {
			continue
		}
		l[i], l[i+1] = l[i+1], l[i]
		if other, _, err := course.Run(kinds, l); err != api.OK || !fleet.Same(s, other) {
			t.Fatal(l, i, err)
		}
	}
}

func TestFirstError(t *testing.T) { // P11.7
	r := rand.New(rand.NewSource(6))
	for range 100 {
		l := course.Sort(sample.RandomEvents(r.Intn, 20))
		_, at, err := course.Run(kinds, l)
		if err == api.OK {
			continue
		}
		s, none, err2 := course.Run(kinds, l[:at])
		if err2 != api.OK || none != -1 {
			t.Fatal(l, at, err2)
		}
		if _, err3 := fleet.Apply(kinds, s, l[at]); err3 != err {
			t.Fatal(l, at, err, err3)
		}
	}
}
