package forecast_test

import (
	"math/rand"
	"slices"
	"testing"

	"bogie/api"
	"bogie/forecast"
	"bogie/formula"
	"bogie/interval"
	"bogie/sample"
)

var setup = sample.Setup()

var in = sample.In

func km(low, high int) api.Use { return api.Use{Km: in(low, high)} }

func TestRange(t *testing.T) { // P36.1: AJ1
	days := [][]api.Use{{km(5, 5), km(8, 8)}, {km(3, 3)}, {km(10, 10), km(1, 1)}}
	if got, err := forecast.Range(setup, api.Life{}, days); got != (api.Life{Km: in(9, 21), Damage: in(18, 42)}) || err != api.OK {
		t.Error(got, err)
	}
	from := api.Life{Km: in(1, 2), Cycles: in(3, 4), Damage: in(5, 6)}
	if got, err := forecast.Range(setup, from, nil); got != from || err != api.OK {
		t.Error(got, err)
	}
	use := api.Use{Km: in(1, 1), Cycles: in(2, 3), Load: in(7, 9)}
	if got, err := forecast.Range(setup, from, [][]api.Use{{use, {Cycles: in(9, 9)}}}); got != (api.Life{Km: in(1, 3), Cycles: in(5, 13), Damage: in(5, 8)}) || err != api.OK {
		t.Error(got, err)
	}
	full := api.Life{Km: in(0, api.MaxAmount), Cycles: in(api.MaxAmount, api.MaxAmount)}
	if got, err := forecast.Range(setup, full, [][]api.Use{{use}}); got != (api.Life{Km: in(1, api.MaxAmount), Cycles: full.Cycles, Damage: in(2, 2)}) || err != api.OK {
		t.Error(got, err)
	}
}

func TestErrors(t *testing.T) { // P36.1: AJ1 and AJ2
	one := []api.Use{km(1, 1)}
	for i, c := range []struct {
		x    api.Setup
		from api.Life
		days [][]api.Use
		want api.Errno
	}{
		{setup, api.Life{}, slices.Repeat([][]api.Use{one}, 400), api.OK}, {setup, api.Life{}, slices.Repeat([][]api.Use{one}, 401), api.ErrArg}, {setup, api.Life{}, [][]api.Use{{}}, api.ErrArg}, {setup, api.Life{}, [][]api.Use{one, nil}, api.ErrArg}, {setup, api.Life{}, [][]api.Use{slices.Repeat(one, 8)}, api.OK}, {setup, api.Life{}, [][]api.Use{slices.Repeat(one, 9)}, api.ErrArg},
		{setup, api.Life{}, [][]api.Use{{km(2, 1)}}, api.ErrArg}, {setup, api.Life{}, [][]api.Use{{km(-1, 1)}}, api.ErrArg}, {setup, api.Life{}, [][]api.Use{{km(0, 1000001)}}, api.ErrArg}, {setup, api.Life{}, [][]api.Use{{km(0, 1000000)}}, api.OK}, {setup, api.Life{}, [][]api.Use{{{Cycles: in(0, 1000001)}}}, api.ErrArg}, {setup, api.Life{}, [][]api.Use{{{Load: in(1, 0)}}}, api.ErrArg},
		{api.Setup{}, api.Life{}, nil, api.ErrArg}, {setup, api.Life{Km: in(-1, 0)}, nil, api.ErrArg}, {setup, api.Life{Cycles: in(1, 0)}, nil, api.ErrArg}, {setup, api.Life{Damage: in(0, api.MaxAmount+1)}, nil, api.ErrArg}, {setup, api.Life{Damage: in(0, api.MaxAmount)}, nil, api.OK},
	} {
		got, err := forecast.Range(c.x, c.from, c.days)
		may, surely, err2 := forecast.Reach(c.x, c.from, c.days, "km", 5)
		if err != c.want || err2 != c.want || err != api.OK && (got != api.Life{} || may != 0 || surely != 0) {
			t.Error(i, got, may, surely, err, err2)
		}
		for _, name := range []string{"days", "age", "", "miles"} {
			want := c.want
			if want == api.OK {
				want = api.ErrName
			}
			if may, surely, err := forecast.Reach(c.x, c.from, c.days, name, -1); err != want || may != 0 || surely != 0 {
				t.Error(i, name, err)
			}
		}
	}
	for _, limit := range []int{-1, api.MaxAmount + 1} {
		if may, surely, err := forecast.Reach(setup, api.Life{}, nil, "km", limit); may != 0 || surely != 0 || err != api.ErrRange {
			t.Error(limit, err)
		}
	}
}

func TestReachValues(t *testing.T) { // P36.1: AJ2
	days := [][]api.Use{{km(5, 5), km(8, 8)}, {km(3, 3)}, {km(10, 10), km(1, 1)}}
	for limit, want := range map[int][2]int{8: {1, 2}, 9: {1, -1}, 50: {-1, -1}, 7: {0, 1}, 4: {0, 0}, 11: {2, -1}, 20: {2, -1}, 21: {-1, -1}} {
		if may, surely, err := forecast.Reach(setup, api.Life{}, days, "km", limit); may != want[0] || surely != want[1] || err != api.OK {
			t.Error(limit, may, surely, err)
		}
	}
	if may, surely, _ := forecast.Reach(setup, api.Life{Km: in(9, 9)}, nil, "km", 5); may != -1 || surely != -1 {
		t.Error(may, surely)
	}
	if may, surely, err := forecast.Reach(setup, api.Life{}, days, "km", api.MaxAmount); may != -1 || surely != -1 || err != api.OK {
		t.Error(may, surely, err)
	}
	if may, surely, err := forecast.Reach(setup, api.Life{}, days, "km", 0); may != 0 || surely != 0 || err != api.OK {
		t.Error(may, surely, err)
	}
	if may, surely, _ := forecast.Reach(setup, api.Life{}, days, "damage", 16); may != 1 || surely != 2 {
		t.Error(may, surely)
	}
}

func use(r *rand.Rand) api.Use {
	one := func() api.Interval {
		a, b := r.Intn(20), r.Intn(20)
		return in(min(a, b), max(a, b))
	}
	return api.Use{Km: one(), Cycles: one(), Load: one()}
}

// each calls a function with a formula, a life and a forecast.
func each(t *testing.T, seed int64, check func(r *rand.Rand, x api.Setup, from api.Life, days [][]api.Use)) {
	t.Helper()
	r := rand.New(rand.NewSource(seed))
	for range 300 {
		text := []string{"km * 2", "km + cycles * load", "load - km", "if(load - 9, km, cycles)", "km / (load - 9)"}[r.Intn(5)]
		f, err, _ := formula.Parse(text)
		if err != api.OK {
			t.Fatal(err)
		}
		var days [][]api.Use
		for range r.Intn(6) {
			var day []api.Use
			for range 1 + r.Intn(3) {
				day = append(day, use(r))
			}
			days = append(days, day)
		}
		u := use(r)
		check(r, api.Setup{Catalog: setup.Catalog, Damage: f}, api.Life{Km: u.Km, Cycles: u.Cycles, Damage: u.Load}, days)
	}
}

func after(t *testing.T, x api.Setup, from api.Life, days [][]api.Use) api.Life {
	t.Helper()
	l, err := forecast.Range(x, from, days)
	if err != api.OK {
		t.Fatal(err)
	}
	return l
}

func contains(all, part api.Life) bool {
	in := func(a, b api.Interval) bool { return a.Low <= b.Low && b.High <= a.High }
	return in(all.Km, part.Km) && in(all.Cycles, part.Cycles) && in(all.Damage, part.Damage)
}

func TestEveryCirculation(t *testing.T) { // P36.2 and P36.6
	each(t, 1, func(r *rand.Rand, x api.Setup, from api.Life, days [][]api.Use) {
		all := after(t, x, from, days)
		sum := from
		var one [][]api.Use
		for _, day := range days {
			u := day[r.Intn(len(day))]
			if r.Intn(2) == 0 { // exact numbers
				exact := func(i api.Interval) api.Interval {
					n := i.Low + r.Intn(i.High-i.Low+1)
					return in(n, n)
				}
				u = api.Use{Km: exact(u.Km), Cycles: exact(u.Cycles), Load: exact(u.Load)}
			}
			one = append(one, []api.Use{u})
			sum = api.Life{Km: interval.Add(sum.Km, u.Km), Cycles: interval.Add(sum.Cycles, u.Cycles), Damage: interval.Add(sum.Damage, formula.Damage(x.Damage, u))}
		}
		if got := after(t, x, from, one); got != sum || !contains(all, got) {
			t.Fatal(x, from, days, got, sum, all)
		}
	})
}

func TestOneAfterTheOther(t *testing.T) { // P36.3
	each(t, 2, func(r *rand.Rand, x api.Setup, from api.Life, days [][]api.Use) {
		n := r.Intn(len(days) + 1)
		all := after(t, x, from, days)
		if after(t, x, after(t, x, from, days[:n]), days[n:]) != all {
			t.Fatal(from, days, n)
		}
		other := slices.Clone(days)
		r.Shuffle(len(other), func(i, j int) { other[i], other[j] = other[j], other[i] })
		if after(t, x, from, other) != all {
			t.Fatal(from, days, other)
		}
	})
}

func TestChoices(t *testing.T) { // P36.4
	each(t, 3, func(r *rand.Rand, x api.Setup, from api.Life, days [][]api.Use) {
		if len(days) == 0 {
			return
		}
		more := slices.Clone(days)
		i := r.Intn(len(days))
		more[i] = append(slices.Clone(days[i]), use(r))
		if !contains(after(t, x, from, more), after(t, x, from, days)) {
			t.Fatal(from, days, more)
		}
	})
}

func TestLimits(t *testing.T) { // P36.5
	each(t, 4, func(r *rand.Rand, x api.Setup, from api.Life, days [][]api.Use) {
		limit, currency := r.Intn(100), []string{"km", "cycles", "damage"}[r.Intn(3)]
		may, surely, err := forecast.Reach(x, from, days, currency, limit)
		if err != api.OK {
			t.Fatal(err)
		}
		for i := range days {
			l := after(t, x, from, days[:i+1])
			used := map[string]api.Interval{"km": l.Km, "cycles": l.Cycles, "damage": l.Damage}[currency]
			if (used.High > limit) != (may >= 0 && i >= may) || (used.Low > limit) != (surely >= 0 && i >= surely) {
				t.Fatal(from, days, currency, limit, may, surely, i)
			}
		}
		if surely >= 0 && (may < 0 || may > surely) {
			t.Fatal(may, surely)
		}
	})
}
