package meaning_test

import (
	"fmt"
	"math/rand"
	"slices"
	"testing"

	"bogie/api"
	"bogie/copies"
	"bogie/fleet"
	"bogie/interval"
	"bogie/life"
	"bogie/meaning"
	"bogie/sample"
)

func cond(text string) api.Expr { return sample.Rule("rule r for k: " + text + ";").Cond }

// train returns a coach c with a wheelset w of the batch A, and an axle a in it; x is a motor.
func train() api.State {
	km := func(low, high int) api.Life { return api.Life{Km: sample.In(low, high)} }
	return api.State{Parts: []api.Part{
		{Name: "a", Kind: "axle", Into: "w", Slot: "axle", Life: km(7, 7)},
		{Name: "c", Kind: "coach", Life: km(90, 110), Made: 2, Since: 5},
		{Name: "w", Kind: "wheelset", Into: "c", Slot: "front", Props: []api.Prop{{Key: "batch", Value: "A"}, {Key: "batch", Value: "B"}}, Life: km(50, 60)},
		{Name: "x", Kind: "motor"},
	}}
}

func TestValues(t *testing.T) { // P22.1
	s := train()
	for _, c := range []struct {
		text, part string
		want       api.Truth
	}{
		{"limit km 100", "c", api.Maybe}, {"limit km 100 plus 10", "c", api.Yes}, {"over km 89", "c", api.Yes}, {"over km 90", "c", api.Maybe}, {"over km 110", "c", api.No}, {"limit km 89", "c", api.No}, {"limit km 89 plus 1", "c", api.Maybe},
		{`any wheelset (batch = "A")`, "c", api.Yes}, {"all axle (has batch)", "c", api.No}, {"at least 2 wheelset", "c", api.No}, {"at least 1 wheelset", "c", api.Yes}, {"at least 1 axle", "c", api.Yes}, {"at least 1 coach", "c", api.No}, {"all motor (has batch)", "c", api.Yes}, {"any motor (true)", "c", api.No},
		{"true", "c", api.Yes}, {"not true", "c", api.No}, {"not limit km 100", "c", api.Maybe}, {"true and limit km 100", "c", api.Maybe}, {"true or limit km 100", "c", api.Yes}, {"not true or limit km 100", "c", api.Maybe}, {"not true and limit km 100", "c", api.No}, {"true and true and not true", "c", api.No}, {"not true or not true or true", "c", api.Yes},
		{`batch = "A"`, "w", api.Yes}, {`batch = "B"`, "w", api.Yes}, {`batch = "C"`, "w", api.No}, {"has batch", "w", api.Yes}, {"has owner", "w", api.No}, {"has batch", "c", api.No},
		{"slot front is wheelset", "c", api.Yes}, {"slot rear is wheelset", "c", api.No}, {"slot front is axle", "c", api.No}, {"slot axle is axle", "w", api.Yes}, {"slot axle is axle", "c", api.No},
		{"limit days 4", "c", api.No}, {"limit days 5", "c", api.Yes}, {"over age 7", "c", api.Yes}, {"over age 8", "c", api.No}, {"limit miles 5", "c", api.No}, {"over miles 0", "c", api.No}, {"not over miles 0", "c", api.Yes},
		{"all wheelset (any axle (limit km 7))", "c", api.Yes}, {"all wheelset (any axle (over km 7))", "c", api.No}, {"all wheelset (over km 55)", "c", api.Maybe}, {"any wheelset (over km 55)", "c", api.Maybe}, {"any axle (limit km 7) and all axle (limit km 7)", "c", api.Yes},
		{"true", "z", api.No}, {"not has batch", "z", api.No}, {"true", "", api.No}, {"not true", "x", api.No}, {"at least 1 axle", "x", api.No},
	} {
		if got := meaning.Holds(s, cond(c.text), c.part, 10); got != c.want {
			t.Error(c, got)
		}
	}
	for _, day := range []int{-1, 40001} {
		if meaning.Holds(s, cond("limit km 500"), "c", day) != api.No || meaning.Holds(s, cond("over km 0"), "c", day) != api.No || meaning.Holds(s, cond("has batch"), "w", day) != api.Yes {
			t.Error(day)
		}
	}
	for _, e := range []api.Expr{{}, {Op: api.ExprNot}, {Op: api.ExprAnd, Kids: []api.Expr{{Op: api.ExprTrue}}}, {Op: api.ExprNot, Kids: []api.Expr{{Op: 99}}}} {
		if meaning.Holds(s, e, "c", 10) != api.No {
			t.Error(e)
		}
	}
}

func TestAnyStates(t *testing.T) { // P22.1
	s := api.State{Parts: []api.Part{
		{Name: "a", Kind: "k", Into: "b"}, {Name: "b", Kind: "k", Into: "a"}, {Name: "c", Kind: "k", Into: "z"}, {Name: "d", Kind: "k"}, {Name: "d", Kind: "l", Into: "d", Slot: "s"},
		{Name: "e", Kind: "m", Into: "d", Slot: "t"}, {Name: "e", Kind: "n", Into: "d", Slot: "t"}, {Name: "d", Kind: "k", Life: api.Life{Km: sample.In(9, 9)}}, {Name: "f", Kind: "k", Life: api.Life{Km: sample.In(9, 3)}},
	}}
	for _, c := range []struct {
		text, part string
		want       api.Truth
	}{
		{"true", "a", api.No}, {"true", "c", api.No}, {"true", "d", api.Yes}, {"slot s is l", "d", api.Yes}, {"slot t is n", "d", api.Yes}, {"slot t is k", "d", api.No}, {"at least 1 n", "d", api.No}, {"at least 1 m", "d", api.Yes}, {"at least 2 m", "d", api.No}, {"limit km 0", "d", api.Yes}, {"limit km 0", "f", api.Yes}, {"over km 0", "f", api.No},
	} {
		if got := meaning.Holds(s, cond(c.text), c.part, 10); got != c.want {
			t.Error(c, got)
		}
	}
	// A long chain, and a condition that goes down in as many ways as there are.
	chain, deep := api.State{}, cond("limit km 5")
	for i := range 50 {
		into := ""
		if i > 0 {
			into = fmt.Sprint("p", i-1)
		}
		chain.Parts = append(chain.Parts, api.Part{Name: fmt.Sprint("p", i), Kind: "k", Into: into})
		deep = api.Expr{Op: api.ExprAll, Name: "k", Kids: []api.Expr{deep}}
	}
	if meaning.Holds(chain, deep, "p0", 1) != api.Yes {
		t.Error("a deep condition")
	}
}

// each calls a function with random states, lives, parts and conditions.
func each(seed int64, check func(r *rand.Rand, s api.State, part string, e api.Expr)) {
	r := rand.New(rand.NewSource(seed))
	for range 60 {
		s := api.State{}
		for _, e := range sample.RandomEvents(r.Intn, 30) {
			if next, err := fleet.Apply(sample.Kinds(), s, e); err == api.OK {
				s = next
			}
		}
		for i := range s.Parts {
			a, b := r.Intn(60), r.Intn(60)
			s.Parts[i].Life.Km = sample.In(min(a, b), max(a, b))
			s.Parts[i].Life.Cycles = sample.In(a, a+r.Intn(2)*r.Intn(9))
		}
		for _, p := range s.Parts {
			for range 10 {
				check(r, s, p.Name, sample.RandomCond(r.Intn, 2))
			}
		}
	}
}

func TestLogic(t *testing.T) { // P22.2
	each(1, func(_ *rand.Rand, s api.State, part string, e api.Expr) {
		got := meaning.Holds(s, e, part, 20)
		not := api.Expr{Op: api.ExprNot, Kids: []api.Expr{e}}
		if meaning.Holds(s, not, part, 20) != interval.Not(got) || meaning.Holds(s, api.Expr{Op: api.ExprNot, Kids: []api.Expr{not}}, part, 20) != got {
			t.Fatal("not", e)
		}
		if e.Op == api.ExprAnd || e.Op == api.ExprOr {
			want := meaning.Holds(s, e.Kids[0], part, 20)
			for _, kid := range e.Kids[1:] {
				if e.Op == api.ExprAnd {
					want = min(want, meaning.Holds(s, kid, part, 20))
				} else {
					want = max(want, meaning.Holds(s, kid, part, 20))
				}
			}
			if got != want {
				t.Fatal(e, got, want)
			}
		}
	})
}

func TestLimits(t *testing.T) { // P22.3
	each(2, func(r *rand.Rand, s api.State, part string, _ api.Expr) {
		currency := []string{"km", "cycles", "damage", "days", "age"}[r.Intn(5)]
		n := r.Intn(60)
		limit := api.Expr{Op: api.ExprLimit, Name: currency, N: n}
		kept := meaning.Holds(s, limit, part, 20)
		over := meaning.Holds(s, api.Expr{Op: api.ExprOver, Name: currency, N: n}, part, 20)
		if kept != interval.Not(over) {
			t.Fatal(part, currency, n)
		}
		p, _ := fleet.Find(s, part)
		used, _ := life.Value(p, currency, 20)
		if over != interval.Over(used, n) {
			t.Fatal(part, currency, n, used)
		}
		limit.Extra = r.Intn(9)
		if meaning.Holds(s, limit, part, 20) < kept {
			t.Fatal(part, currency, n)
		}
	})
}

func TestPartsInside(t *testing.T) { // P22.4
	each(3, func(r *rand.Rand, s api.State, part string, e api.Expr) {
		kind := []string{"axle", "wheelset", "motor"}[r.Intn(3)]
		of := func(op int, e api.Expr) api.Truth {
			return meaning.Holds(s, api.Expr{Op: op, Name: kind, Kids: []api.Expr{e}}, part, 20)
		}
		not := api.Expr{Op: api.ExprNot, Kids: []api.Expr{e}}
		if of(api.ExprAll, e) != interval.Not(of(api.ExprAny, not)) {
			t.Fatal(part, e)
		}
		if meaning.Holds(s, api.Expr{Op: api.ExprCount, Name: kind, N: 1}, part, 20) != of(api.ExprAny, api.Expr{Op: api.ExprTrue}) {
			t.Fatal(part, kind)
		}
		want := api.Yes
		for _, name := range fleet.Inside(s, part) {
			if p, _ := fleet.Find(s, name); p.Kind == kind {
				want = min(want, meaning.Holds(s, e, name, 20))
			}
		}
		if of(api.ExprAll, e) != want {
			t.Fatal(part, kind, e)
		}
	})
}

func TestBetterKnowledge(t *testing.T) { // P22.5 and P22.6
	each(4, func(r *rand.Rand, s api.State, part string, e api.Expr) {
		got := meaning.Holds(s, e, part, 20)
		better, exact := copies.State(s), copies.State(s)
		for i := range better.Parts {
			k := better.Parts[i].Life.Km
			low := k.Low + r.Intn(k.High-k.Low+1)
			better.Parts[i].Life.Km = sample.In(low, low+r.Intn(k.High-low+1))
			exact.Parts[i].Life = api.Life{Km: sample.In(low, low)}
			c := better.Parts[i].Life.Cycles
			exact.Parts[i].Life.Cycles = sample.In(c.Low, c.Low)
		}
		if more := meaning.Holds(better, e, part, 20); got != api.Maybe && more != got {
			t.Fatal(e, got, more)
		}
		if sure := meaning.Holds(exact, e, part, 20); sure == api.Maybe || got != api.Maybe && sure != got {
			t.Fatal(e, got, sure)
		}
	})
}

func TestOthers(t *testing.T) { // P22.7
	each(5, func(_ *rand.Rand, s api.State, part string, e api.Expr) {
		inside := append(fleet.Inside(s, part), part)
		alone := api.State{}
		for _, p := range s.Parts {
			if slices.Contains(inside, p.Name) {
				if p.Name == part {
					p.Into, p.Slot = "", ""
				}
				alone.Parts = append(alone.Parts, p)
			}
		}
		if meaning.Holds(s, e, part, 20) != meaning.Holds(alone, e, part, 20) {
			t.Fatal(part, e)
		}
	})
}
