package bound_test

import (
	"fmt"
	"math"
	"math/rand"
	"slices"
	"testing"

	"bogie/api"
	"bogie/bound"
	"bogie/cases"
	"bogie/fleet"
	"bogie/life"
	"bogie/sample"
	"bogie/search"
)

var setup = sample.Setup()

var currencies = []string{"km", "cycles", "damage", "days", "age"}

func TestValues(t *testing.T) { // P18.1
	l := sample.Reports("make 0 v1 coach; run 1 v1 10 10 0 0 0 0 | run 2 v1 20 20 3 3 0 0")
	for day, want := range []api.Interval{sample.In(0, 0), sample.In(0, 10), sample.In(10, 20)} {
		if got, err := bound.Value(setup, l, "v1", "km", day); got != want || err != api.OK {
			t.Error(day, got, err)
		}
	}
	if got, err := bound.Life(setup, l, "v1", 2); got != (api.Life{Km: sample.In(10, 20), Cycles: sample.In(0, 3), Damage: sample.In(20, 40)}) || err != api.OK {
		t.Error(got, err)
	}
	// A history without the part counts as a life of zero, also in days and age.
	l = sample.Reports("? make 3 v1 coach; ? overhaul 5 v1; overhaul 1 v2 | make 1 v2 coach")
	for currency, want := range map[string]api.Interval{"age": sample.In(0, 6), "days": sample.In(0, 6), "km": {}} {
		if got, err := bound.Value(setup, l, "v1", currency, 9); got != want || err != api.OK {
			t.Error(currency, got, err)
		}
	}
	l = sample.Reports("make 3 v1 coach | make 5 v1 coach; ? overhaul 6 v1")
	for currency, want := range map[string]api.Interval{"age": sample.In(4, 6), "days": sample.In(3, 6)} {
		if got, err := bound.Value(setup, l, "v1", currency, 9); got != want || err != api.OK {
			t.Error(currency, got, err)
		}
	}
}

func overhauls(n int) []api.Report {
	l := sample.Reports("make 0 v1 coach")
	for i := range n {
		l = append(l, sample.Report(fmt.Sprintf("? overhaul %d v1", i+1)))
	}
	return l
}

func TestErrors(t *testing.T) { // P18.1
	l := sample.Reports("make 3 v1 coach; ? scrap 5 v1")
	impossible := append(overhauls(3), sample.Report("remove 9 v1"))
	badSetup := api.Setup{Catalog: setup.Catalog}
	for _, c := range []struct {
		x    api.Setup
		l    []api.Report
		part string
		day  int
		want api.Errno
	}{
		{setup, l, "v1", 3, api.OK}, {setup, l, "v1", 2, api.ErrNone}, {setup, l, "v2", 3, api.ErrNone}, {setup, l, "", 3, api.ErrNone}, {setup, nil, "v1", 3, api.ErrNone},
		{setup, l, "v1", -1, api.ErrArg}, {setup, l, "v1", 40001, api.ErrArg}, {setup, l, "v2", math.MaxInt, api.ErrArg}, {setup, l, "v1", 40000, api.OK}, {badSetup, l, "v1", 3, api.ErrArg}, {setup, append(slices.Clone(l), api.Report{}), "v1", 3, api.ErrArg},
		{api.Setup{Damage: setup.Damage, Catalog: api.Catalog{Kinds: []api.Kind{{}}}}, nil, "v1", 3, api.ErrArg},
		{setup, overhauls(11), "v1", 3, api.OK}, {setup, overhauls(12), "v1", 3, api.ErrLimit}, {setup, overhauls(31), "v1", 3, api.ErrLimit}, {setup, append(overhauls(31), sample.Report("remove 9 v1")), "v1", 3, api.ErrLimit}, {setup, impossible, "v1", 3, api.ErrDoubt}, {setup, append(overhauls(30), sample.Report("remove 0 v1")), "v1", 3, api.ErrDoubt},
	} {
		a, err := bound.Life(c.x, c.l, c.part, c.day)
		b, err2 := bound.Value(c.x, c.l, c.part, "km", c.day)
		if err != c.want || err2 != c.want || err != api.OK && (a != api.Life{} || b != api.Interval{}) {
			t.Error(len(c.l), c.part, c.day, err, err2, c.want)
		}
		if _, err := bound.Value(c.x, c.l, c.part, "miles", c.day); err != api.ErrName {
			t.Error(err)
		}
	}
}

// lists calls a function with random reports that have a history, a part, a day, and the part in each history of its component.
func lists(t *testing.T, seed int64, doubts int, check func(r *rand.Rand, l []api.Report, part string, day int, states []api.Part)) {
	t.Helper()
	r := rand.New(rand.NewSource(seed))
	for range 200 {
		l := sample.RandomReports(r.Intn, 14, doubts)
		part, day := []string{"v1", "w1", "a1"}[r.Intn(3)], r.Intn(18)
		own := cases.About(l, part)
		histories, err := search.All(setup.Catalog, own, 4096)
		if err != api.OK {
			continue
		}
		var states []api.Part
		there := false
		for _, events := range cases.Events(own, histories) {
			s, _, _ := life.Run(setup, events, day)
			p, ok := fleet.Find(s, part)
			there = there || ok
			states = append(states, p)
		}
		if _, err := bound.Life(setup, l, part, day); there != (err == api.OK) {
			t.Fatal(l, part, day, err)
		}
		if there {
			check(r, l, part, day, states)
		}
	}
}

// of returns the life of a part in a currency; zero if it is not there.
func of(p api.Part, currency string, day int) api.Interval {
	if p.Name == "" {
		return api.Interval{}
	}
	i, _ := life.Value(p, currency, day)
	return i
}

func TestReached(t *testing.T) { // P18.2, P18.3 and P18.7
	lists(t, 1, 5, func(_ *rand.Rand, l []api.Report, part string, day int, states []api.Part) {
		bounds := map[string]api.Interval{}
		for _, currency := range currencies {
			got, err := bound.Value(setup, l, part, currency, day)
			want := of(states[0], currency, day)
			for _, p := range states {
				i := of(p, currency, day)
				want = sample.In(min(want.Low, i.Low), max(want.High, i.High))
			}
			if got != want || err != api.OK {
				t.Fatal(l, part, currency, day, got, want)
			}
			bounds[currency] = got
		}
		got, err := bound.Life(setup, l, part, day)
		if got != (api.Life{Km: bounds["km"], Cycles: bounds["cycles"], Damage: bounds["damage"]}) || err != api.OK {
			t.Fatal(l, part, day, got, bounds)
		}
		if bounds["days"].Low > bounds["age"].Low || bounds["days"].High > bounds["age"].High {
			t.Fatal(l, part, day, bounds)
		}
	})
}

func TestNoDoubt(t *testing.T) { // P18.4
	lists(t, 2, 0, func(_ *rand.Rand, l []api.Report, part string, day int, states []api.Part) {
		if got, _ := bound.Life(setup, l, part, day); len(states) != 1 || got != states[0].Life {
			t.Fatal(l, part, day, got)
		}
	})
}

func TestDecisions(t *testing.T) { // P18.5
	lists(t, 3, 5, func(r *rand.Rand, l []api.Report, part string, day int, _ []api.Part) {
		i := r.Intn(len(l))
		decided := slices.Clone(l)
		decided[i] = api.Report{Options: l[i].Options[:1]}
		for _, currency := range currencies {
			all, _ := bound.Value(setup, l, part, currency, day)
			got, err := bound.Value(setup, decided, part, currency, day)
			if err == api.OK && (got.Low < all.Low || got.High > all.High) || err != api.OK && err != api.ErrDoubt && err != api.ErrNone {
				t.Fatal(l, part, day, i, got, all, err)
			}
		}
	})
}

func TestOthers(t *testing.T) { // P18.6
	lists(t, 4, 4, func(_ *rand.Rand, l []api.Report, part string, day int, _ []api.Part) {
		got, err := bound.Life(setup, l, part, day)
		for _, more := range [][]api.Report{sample.Reports("scrap 1 z"), sample.Reports("make 1 z coach; ? run 2 z 5 5 5 5 5 5")} {
			if other, err2 := bound.Life(setup, append(more, l...), part, day); other != got || err2 != err {
				t.Fatal(l, part, day)
			}
		}
	})
}
