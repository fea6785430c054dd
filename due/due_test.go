package due_test

import (
	"cmp"
	"fmt"
	"math/rand"
	"slices"
	"testing"

	"bogie/api"
	"bogie/due"
	"bogie/fleet"
	"bogie/formula"
	"bogie/interval"
	"bogie/life"
	"bogie/sample"
)

var setup = sample.Setup()

var in = sample.In

func state(t *testing.T, day int, texts ...string) api.State {
	t.Helper()
	s, _, err := life.Run(setup, sample.Events(texts...), day)
	if err != api.OK {
		t.Fatal(err)
	}
	return s
}

func shown(l []api.Due) string {
	s := ""
	for _, d := range l {
		s += fmt.Sprint(d.Part, "/", d.Rule, "/", d.Day, " ")
	}
	return s
}

func TestValues(t *testing.T) { // P35.1: AI1
	s := state(t, 10, "make 0 v1 coach; make 2 a axle; run 5 v1 40 60 3 3 0 0; make 10 u coach; overhaul 8 a")
	daily := api.Use{Km: in(5, 10), Cycles: in(0, 0), Load: in(0, 9)}
	for _, c := range []struct {
		rules []api.Rule
		part  string
		day   int
		want  string
	}{
		{sample.Rules("rule r for coach: limit km 100 plus 50 and limit days 30;"), "v1", 10, "v1/r/15 v1/r/31 "}, {sample.Rules("rule r for coach: limit km 100 plus 50 and limit days 30;"), "u", 10, "u/r/21 u/r/41 "}, {sample.Rules("rule r for axle: limit days 3 and limit age 3;"), "a", 10, "a/r/10 a/r/12 "}, {sample.Rules("rule r for axle: limit days 3 and limit age 3;"), "v1", 10, ""},
		{sample.Rules("rule r for coach: limit km 60;", "rule q for coach: limit km 59;", "rule p for coach: limit cycles 3;", "rule o for coach: limit cycles 2;", "rule n for coach: limit damage 120;", "rule m for coach: limit damage 139;", "rule l for coach: limit damage 140;"), "v1", 10, "v1/o/10 v1/q/10 v1/m/11 v1/n/11 v1/r/11 v1/l/12 "},
		{sample.Rules("rule r for coach: limit km 5 or limit km 6;", "rule q for coach: not limit km 5;", "rule p for coach: over km 5;", "rule o for coach: all axle (limit km 5);", "rule n for coach: limit miles 5;", "rule m for coach: true and (limit km 70 and (has x and limit km 70));"), "v1", 10, "v1/m/12 v1/m/12 "},
		{sample.Rules("rule r for coach: limit age 39999;", "rule q for coach: limit age 40000;", "rule p for coach: limit km 399959;", "rule o for coach: limit km 399960;"), "v1", 10, "v1/p/40000 v1/r/40000 "}, {sample.Rules("rule r for coach: limit days 0;"), "u", 3, "u/r/11 "}, {sample.Rules("rule r for coach: limit km 60;"), "v1", 40000, ""}, {sample.Rules("rule r for coach: limit km 59;"), "v1", 40000, "v1/r/40000 "}, {nil, "v1", 10, ""},
	} {
		if got, err := due.Days(setup, c.rules, s, c.part, c.day, daily); shown(got) != c.want || err != api.OK {
			t.Error(c.want, shown(got), err)
		}
	}
	if got, err := due.Days(setup, sample.Rules("rule r for coach: limit age 0;"), state(t, 0, "make 0 v1 coach"), "v1", 0, daily); shown(got) != "v1/r/1 " || err != api.OK {
		t.Error(got, err)
	}
	good := sample.Rules("rule r for coach: true;")
	for i, c := range []struct {
		x     api.Setup
		rules []api.Rule
		s     api.State
		part  string
		day   int
		use   api.Use
		want  api.Errno
	}{
		{api.Setup{Catalog: setup.Catalog}, good, s, "v1", 1, daily, api.ErrArg}, {setup, append(good, api.Rule{}), s, "v1", 1, daily, api.ErrArg}, {setup, good, api.State{Parts: []api.Part{{}}}, "v1", 1, daily, api.ErrArg}, {setup, good, s, "v1", -1, daily, api.ErrArg}, {setup, good, s, "x", 40001, daily, api.ErrArg}, {setup, good, s, "v1", 1, api.Use{Km: in(2, 1)}, api.ErrArg}, {setup, good, s, "v1", 1, api.Use{Load: in(0, 1000001)}, api.ErrArg}, {setup, good, s, "x", 1, daily, api.ErrNone}, {setup, nil, s, "", 1, daily, api.ErrNone},
	} {
		if got, err := due.Days(c.x, c.rules, c.s, c.part, c.day, c.use); len(got) != 0 || err != c.want {
			t.Error(i, got, err)
		}
	}
}

func TestFirst(t *testing.T) { // P35.7, and P35.1: AI2
	l := []api.Due{{Part: "a", Day: 5}, {Part: "b", Day: 3}, {Part: "c", Day: 3, Rule: "a"}, {Part: "d", Day: 4}}
	if d, ok := due.First(l); d != l[1] || !ok {
		t.Error(d, ok)
	}
	if d, ok := due.First([]api.Due{{Day: -7}, {Day: -9, Part: "x"}}); d.Part != "x" || !ok {
		t.Error(d, ok)
	}
	if d, ok := due.First(nil); d != (api.Due{}) || ok {
		t.Error(d, ok)
	}
}

// after returns a part some days later, at a daily use.
func after(p api.Part, daily api.Use, days int) api.Part {
	for range days {
		p.Life.Km = interval.Add(p.Life.Km, daily.Km)
		p.Life.Cycles = interval.Add(p.Life.Cycles, daily.Cycles)
		p.Life.Damage = interval.Add(p.Life.Damage, formula.Damage(setup.Damage, daily))
	}
	return p
}

// each calls a function with random rules and daily uses for a coach v1.
func each(t *testing.T, seed int64, check func(r *rand.Rand, rules []api.Rule, s api.State, day int, daily api.Use)) {
	t.Helper()
	r := rand.New(rand.NewSource(seed))
	for range 150 {
		s := state(t, 100, fmt.Sprintf("make %d v1 coach; run 5 v1 %d 60 3 3 0 0", r.Intn(5), r.Intn(60)))
		var rules []api.Rule
		for i := range 1 + r.Intn(4) {
			p := sample.Rule(fmt.Sprintf("rule r%d for coach: limit %s %d;", 3-i, []string{"km", "cycles", "damage", "days", "age"}[r.Intn(5)], r.Intn(200)))
			if r.Intn(2) == 0 {
				p.Cond = sample.RandomCond(r.Intn, 2)
			}
			rules = append(rules, p)
		}
		km, cycles := r.Intn(9), r.Intn(3)
		check(r, rules, s, 5+r.Intn(60), api.Use{Km: in(km, km+r.Intn(9)), Cycles: in(cycles, cycles)})
	}
}

func days(t *testing.T, rules []api.Rule, s api.State, day int, daily api.Use) []api.Due {
	t.Helper()
	l, err := due.Days(setup, rules, s, "v1", day, daily)
	if err != api.OK {
		t.Fatal(err)
	}
	return l
}

func TestTheDay(t *testing.T) { // P35.2
	each(t, 1, func(r *rand.Rand, _ []api.Rule, s api.State, day int, daily api.Use) {
		currency, n := []string{"km", "cycles", "damage", "days", "age"}[r.Intn(5)], r.Intn(300)
		got := days(t, sample.Rules(fmt.Sprintf("rule r for coach: limit %s %d plus %d;", currency, n, r.Intn(50))), s, day, daily)
		p, _ := fleet.Find(s, "v1")
		want := -1
		for d := day; d < day+400 && want < 0; d++ {
			used, _ := life.Value(after(p, daily, d-day), currency, d)
			if used.High > n {
				want = d
			}
		}
		if want < 0 != (len(got) == 0 || got[0].Day >= day+400) || want >= 0 && (len(got) != 1 || got[0].Day != want) {
			t.Fatal(currency, n, day, daily, got, want)
		}
	})
}

func TestMoreUse(t *testing.T) { // P35.3
	each(t, 2, func(r *rand.Rand, rules []api.Rule, s api.State, day int, daily api.Use) {
		more := daily
		more.Km.High += r.Intn(9)
		more.Cycles.High += r.Intn(9)
		for _, rule := range rules {
			a, b := days(t, []api.Rule{rule}, s, day, daily), days(t, []api.Rule{rule}, s, day, more)
			if len(b) < len(a) {
				t.Fatal(rule, a, b)
			}
			for i := range a {
				if b[i].Day > a[i].Day {
					t.Fatal(rule, a, b)
				}
			}
		}
	})
}

func TestDayByDay(t *testing.T) { // P35.4
	each(t, 3, func(_ *rand.Rand, rules []api.Rule, s api.State, day int, daily api.Use) {
		later := api.State{Parts: []api.Part{after(s.Parts[0], daily, 1)}}
		want := days(t, rules, s, day, daily)
		for i := range want {
			want[i].Day = max(want[i].Day, day+1)
		}
		slices.SortFunc(want, func(a, b api.Due) int { return cmp.Or(a.Day-b.Day, cmp.Compare(a.Rule, b.Rule)) })
		if got := days(t, rules, later, day+1, daily); !slices.Equal(got, want) {
			t.Fatal(rules, day, daily, got, want)
		}
	})
}

func TestRules(t *testing.T) { // P35.5 and P35.6
	each(t, 4, func(_ *rand.Rand, rules []api.Rule, s api.State, day int, daily api.Use) {
		var want []api.Due
		for _, r := range rules {
			want = append(want, days(t, []api.Rule{r}, s, day, daily)...)
		}
		slices.SortFunc(want, func(a, b api.Due) int { return cmp.Or(a.Day-b.Day, cmp.Compare(a.Rule, b.Rule)) })
		if got := days(t, rules, s, day, daily); !slices.Equal(got, want) {
			t.Fatal(rules, got, want)
		}
		both := func(op int, kids ...api.Expr) []api.Due {
			return days(t, []api.Rule{{Name: "r", Kind: "coach", Cond: api.Expr{Op: op, Kids: kids}}}, s, day, daily)
		}
		a, b := rules[0].Cond, rules[len(rules)-1].Cond
		one := func(e api.Expr) []api.Due {
			return days(t, []api.Rule{{Name: "r", Kind: "coach", Cond: e}}, s, day, daily)
		}
		joined := append(one(a), one(b)...)
		slices.SortFunc(joined, func(a, b api.Due) int { return a.Day - b.Day })
		if got := both(api.ExprAnd, a, b); !slices.Equal(got, joined) {
			t.Fatal(a, b, got, joined)
		}
		if len(both(api.ExprOr, a, b)) != 0 || len(both(api.ExprNot, a)) != 0 {
			t.Fatal(a, b)
		}
	})
}
