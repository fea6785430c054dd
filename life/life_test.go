package life_test

import (
	"math"
	"math/rand"
	"reflect"
	"slices"
	"testing"

	"bogie/api"
	"bogie/course"
	"bogie/fleet"
	"bogie/formula"
	"bogie/life"
	"bogie/sample"
)

var setup = sample.Setup()

const train = "make 0 v1 coach; make 0 b1 wheelset; fit 0 b1 v1 front;"

// lifeOf returns the life of a part at the end of day 9.
func lifeOf(t *testing.T, part string, texts ...string) api.Part {
	t.Helper()
	s, at, err := life.Run(setup, sample.Events(texts...), 9)
	if err != api.OK || at != -1 {
		t.Fatal(texts, at, err)
	}
	p, ok := fleet.Find(s, part)
	if !ok {
		t.Fatal("not there:", part)
	}
	return p
}

func lifeWith(km, cycles, damage api.Interval) api.Life {
	return api.Life{Km: km, Cycles: cycles, Damage: damage}
}

func TestRun(t *testing.T) { // P12.1: L1
	in := sample.In
	run := "run 1 v1 10 12 3 3 0 0;"
	for _, c := range []struct {
		texts, part string
		want        api.Life
	}{
		{run, "v1", lifeWith(in(10, 12), in(3, 3), in(20, 24))}, {run, "b1", lifeWith(in(10, 12), in(3, 3), in(20, 24))},
		{run + "remove 2 b1; run 3 v1 5 5 0 0 0 0", "v1", lifeWith(in(15, 17), in(3, 3), in(30, 34))}, {run + "remove 2 b1; run 3 v1 5 5 0 0 0 0", "b1", lifeWith(in(10, 12), in(3, 3), in(20, 24))},
		{run + "overhaul 4 v1", "v1", api.Life{}}, {run + "overhaul 4 v1", "b1", lifeWith(in(10, 12), in(3, 3), in(20, 24))},
		{"run 10 v1 10 12 3 3 0 0", "v1", api.Life{}}, {"make 1 a axle; fit 2 a b1 axle; " + run, "a", api.Life{}}, {"make 1 a axle; run 3 v1 1 2 3 4 0 0; fit 2 a b1 axle", "a", lifeWith(in(1, 2), in(3, 4), in(2, 4))},
		{"run 9 v1 1 2 3 4 0 0; remove 9 b1", "b1", lifeWith(in(1, 2), in(3, 4), in(2, 4))}, {"remove 9 b1; run 9 v1 1 2 3 4 0 0", "b1", api.Life{}},
	} {
		if got := lifeOf(t, c.part, train, c.texts).Life; got != c.want {
			t.Error(c, got)
		}
	}
	for _, c := range []struct {
		texts string
		day   int
		at    int
		err   api.Errno
	}{{"make 3 a axle; make 1 a axle; scrap 4 b", 3, 1, api.ErrTwice}, {"make 3 a axle; make 1 a axle; scrap 4 b", 2, -1, api.OK}, {"scrap 4 b; make 3 a axle", 4, 1, api.ErrNone}, {"scrap 4 b", math.MinInt, -1, api.OK}, {"scrap 4 b", math.MaxInt, 0, api.ErrNone}} {
		s, at, err := life.Run(setup, sample.Events(c.texts), c.day)
		if at != c.at || err != c.err || err != api.OK && len(s.Parts) != 0 {
			t.Error(c, at, err)
		}
	}
	for _, x := range []api.Setup{{Catalog: setup.Catalog}, {Catalog: api.Catalog{Kinds: []api.Kind{{}}}, Damage: setup.Damage}} {
		if s, at, err := life.Run(x, nil, 0); at != -1 || err != api.ErrArg || len(s.Parts) != 0 {
			t.Error(at, err)
		}
	}
	// Lives do not exceed the greatest amount.
	f, _, _ := formula.Parse("km * 1000000")
	x := api.Setup{Catalog: setup.Catalog, Damage: f}
	s, _, err := life.Run(x, sample.Events(train, "run 1 v1 1000000 1000000 0 0 0 0; run 1 v1 1000000 1000000 0 0 0 0; overhaul 2 b1"), 9)
	if v, _ := fleet.Find(s, "v1"); err != api.OK || v.Life.Damage != in(api.MaxAmount, api.MaxAmount) {
		t.Error(s, err)
	}
}

func TestValue(t *testing.T) { // P12.1: L2 and L3, and P12.7
	v := lifeOf(t, "v1", train, "run 1 v1 10 12 3 3 0 0; overhaul 4 v1; run 5 v1 1 2 3 4 0 0")
	for currency, want := range map[string]api.Interval{"km": sample.In(1, 2), "cycles": sample.In(3, 4), "damage": sample.In(2, 4), "days": sample.In(5, 5), "age": sample.In(9, 9)} {
		if got, err := life.Value(v, currency, 9); got != want || err != api.OK || !life.Is(currency) {
			t.Error(currency, got, err)
		}
	}
	for _, currency := range []string{"", "Km", "miles", "km "} {
		if got, err := life.Value(v, currency, 9); got != (api.Interval{}) || err != api.ErrName || life.Is(currency) {
			t.Error(currency, got, err)
		}
		if _, err := life.Value(v, currency, -1); err != api.ErrName {
			t.Error(currency, err)
		}
	}
	for _, day := range []int{-1, api.MaxDay + 1, math.MinInt, math.MaxInt} {
		if got, err := life.Value(v, "km", day); got != (api.Interval{}) || err != api.ErrRange {
			t.Error(day, got, err)
		}
	}
	odd := api.Part{Made: math.MinInt, Since: math.MaxInt, Life: api.Life{Km: sample.In(7, -7)}}
	for currency, want := range map[string]api.Interval{"age": sample.In(api.MaxAmount, api.MaxAmount), "days": {}, "km": sample.In(7, -7)} {
		if got, err := life.Value(odd, currency, api.MaxDay); got != want || err != api.OK {
			t.Error(currency, got, err)
		}
	}
	if got, err := life.Value(v, "age", 0); got != (api.Interval{}) || err != api.OK {
		t.Error(got, err)
	}
	late := api.Part{Made: 5, Since: 8}
	if got, _ := life.Value(late, "age", 4); got != (api.Interval{}) {
		t.Error(got)
	}
	for day := 5; day < 20; day++ { // days and age grow by one a day
		age, _ := life.Value(late, "age", day)
		days, _ := life.Value(late, "days", day)
		if age != sample.In(day-5, day-5) || days.High > age.High {
			t.Error(day, age, days)
		}
	}
}

// possible returns random events that are possible, in order, on different days from day 10 on.
func possible(r *rand.Rand) []api.Event {
	var l []api.Event
	s := api.State{}
	for _, e := range course.Sort(sample.RandomEvents(r.Intn, 40)) {
		if next, err := fleet.Apply(setup.Catalog, s, e); err == api.OK {
			s = next
			e.Day = 10 + len(l)
			l = append(l, e)
		}
	}
	return l
}

func state(t *testing.T, l []api.Event, day int) api.State {
	t.Helper()
	s, at, err := life.Run(setup, l, day)
	if err != api.OK || at != -1 {
		t.Fatal(l, at, err)
	}
	return s
}

func TestStates(t *testing.T) { // P12.2
	r := rand.New(rand.NewSource(1))
	for range 100 {
		l := sample.RandomEvents(r.Intn, 20)
		day := r.Intn(25)
		s, at, err := life.Run(setup, l, day)
		want, at2, err2 := course.At(setup.Catalog, l, day)
		for i := range s.Parts {
			s.Parts[i].Life = api.Life{}
		}
		if !fleet.Same(s, want) || at != at2 || err != err2 {
			t.Fatal(l, day, at, at2, err, err2)
		}
	}
}

func TestRuns(t *testing.T) { // P12.3, P12.4 and P12.6
	r := rand.New(rand.NewSource(2))
	seen := map[int]bool{}
	for range 150 {
		l := possible(r)
		n := r.Intn(len(l)-1) + 1
		e := l[n-1]
		before, after := state(t, l[:n-1], api.MaxDay), state(t, l[:n], api.MaxDay)
		for _, p := range before.Parts {
			q, _ := fleet.Find(after, p.Name)
			used := e.Op == api.OpRun && (p.Name == e.Part || slices.Contains(fleet.Inside(before, e.Part), p.Name))
			want := p.Life
			if used {
				d := formula.Damage(setup.Damage, e.Use)
				want.Km.Low, want.Km.High = want.Km.Low+e.Use.Km.Low, want.Km.High+e.Use.Km.High
				want.Cycles.Low, want.Cycles.High = want.Cycles.Low+e.Use.Cycles.Low, want.Cycles.High+e.Use.Cycles.High
				want.Damage.Low, want.Damage.High = want.Damage.Low+d.Low, want.Damage.High+d.High
			}
			if e.Op == api.OpOverhaul && p.Name == e.Part {
				want = api.Life{}
			}
			if q.Life != want {
				t.Fatal(e, p, q)
			}
			seen[e.Op] = true
		}
	}
	if len(seen) < 6 {
		t.Error("too few operations:", seen)
	}
}

func TestLaterDays(t *testing.T) { // P12.5
	r := rand.New(rand.NewSource(3))
	for range 60 {
		l := possible(r)
		day := 10 + r.Intn(len(l))
		later := day + 1 + r.Intn(5)
		before, after := state(t, l, day), state(t, l, later)
		for _, p := range before.Parts {
			overhauled := slices.ContainsFunc(l, func(e api.Event) bool {
				return e.Op == api.OpOverhaul && e.Part == p.Name && e.Day > day && e.Day <= later
			})
			q, _ := fleet.Find(after, p.Name)
			if !overhauled && (q.Life.Km.Low < p.Life.Km.Low || q.Life.Km.High < p.Life.Km.High || q.Life.Cycles.Low < p.Life.Cycles.Low || q.Life.Cycles.High < p.Life.Cycles.High || q.Life.Damage.Low < p.Life.Damage.Low || q.Life.Damage.High < p.Life.Damage.High) {
				t.Fatal(l, day, later, p, q)
			}
		}
	}
}

func TestEqualArguments(t *testing.T) { // P1 and P3
	l := sample.Events(train, "run 1 v1 10 12 3 3 0 0")
	before := slices.Clone(l)
	a, b := state(t, l, 9), state(t, l, 9)
	a.Parts[0].Name = "x"
	if !slices.Equal(before, l) || reflect.DeepEqual(a, b) || !reflect.DeepEqual(b, state(t, l, 9)) {
		t.Error("changed")
	}
}
