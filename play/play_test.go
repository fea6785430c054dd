package play_test

import (
	"math/rand"
	"slices"
	"testing"

	"bogie/api"
	"bogie/game"
	"bogie/play"
	"bogie/sample"
)

func of(budget int, starts []int, departures ...[]int) api.Game {
	return api.Game{Starts: starts, Departures: departures, Budget: budget}
}

func plan(t *testing.T, g api.Game) []api.Position {
	t.Helper()
	p, err := game.Plan(g)
	if err != api.OK {
		t.Fatal(g, err)
	}
	return p
}

func TestLost(t *testing.T) { // P41.1: AO1
	g := of(1, []int{2}, []int{0}, []int{0})
	p := plan(t, g)
	for _, c := range []struct {
		fails []int
		want  int
		err   api.Errno
	}{
		{[]int{-1, -1}, 0, 0}, {[]int{0, -1}, 2, 0}, {[]int{-1, 0}, 1, 0}, {[]int{0, 0}, 0, api.ErrArg}, {[]int{-1}, 0, api.ErrArg}, {nil, 0, api.ErrArg}, {[]int{-1, -1, -1}, 0, api.ErrArg}, {[]int{1, -1}, 0, api.ErrArg}, {[]int{-2, -1}, 0, api.ErrArg},
	} {
		if got, err := play.Lost(g, p, c.fails); got != c.want || err != c.err {
			t.Error(c, got, err)
		}
	}
	two := of(1, []int{1, 1}, []int{0, 1})
	if _, err := play.Lost(two, plan(t, two), []int{1}); err != api.OK {
		t.Error(err)
	}
	more := of(2, []int{1, 1}, []int{0, 1}, []int{0, 1}, []int{0})
	if got, err := play.Lost(more, plan(t, more), []int{0, 1, -1}); got != 2 || err != api.OK {
		t.Error(got, err)
	}
	if _, err := play.Lost(more, plan(t, more), []int{0, 1, 0}); err != api.ErrArg {
		t.Error(err)
	}
	if _, err := play.Lost(of(5, nil), nil, nil); err != api.ErrArg {
		t.Error(err)
	}
	if got, err := play.Lost(of(1, []int{1}), nil, nil); got != 0 || err != api.OK {
		t.Error(got, err)
	}
}

func at(choice int, change func(p *api.Position)) api.Position {
	p := api.Position{Starts: []int{1, 0}, Failed: []bool{false, false}, Choice: choice}
	if change != nil {
		change(&p)
	}
	return p
}

func TestStuck(t *testing.T) { // P41.1: AO1 and AO2
	g := of(0, []int{1, 0}, []int{0, 1})
	for i, c := range []struct {
		plan []api.Position
		want int
		err  api.Errno
	}{
		{[]api.Position{at(0, nil)}, 0, 0}, {[]api.Position{at(-1, nil)}, 1, 0}, {[]api.Position{at(1, nil)}, 0, api.ErrState}, {[]api.Position{at(2, nil)}, 0, api.ErrState}, {[]api.Position{at(-2, nil)}, 0, api.ErrState}, {nil, 0, api.ErrNone}, {[]api.Position{at(-1, nil), at(0, nil)}, 1, 0},
		{[]api.Position{at(0, func(p *api.Position) { p.Turn = 1 })}, 0, api.ErrNone}, {[]api.Position{at(0, func(p *api.Position) { p.Budget = 1 })}, 0, api.ErrNone}, {[]api.Position{at(0, func(p *api.Position) { p.Starts[0] = 2 })}, 0, api.ErrNone}, {[]api.Position{at(0, func(p *api.Position) { p.Failed[1] = true })}, 0, api.ErrNone}, {[]api.Position{at(0, func(p *api.Position) { p.Starts = []int{1} })}, 0, api.ErrNone}, {[]api.Position{at(0, func(p *api.Position) { p.Starts = []int{1, 0, 0} })}, 0, api.ErrNone}, {[]api.Position{at(0, func(p *api.Position) { p.Failed = nil })}, 0, api.ErrNone}, {[]api.Position{at(0, func(p *api.Position) { p.Starts = make([]int, 9) }), at(0, func(p *api.Position) { p.Bound = 77 })}, 0, 0},
	} {
		got, err := play.Lost(g, c.plan, []int{-1})
		fails, most, err2 := play.Worst(g, c.plan)
		if got != c.want || err != c.err || err2 != c.err || most != c.want || err == api.OK && !slices.Equal(fails, []int{-1}) || err != api.OK && len(fails) != 0 {
			t.Error(i, got, err, fails, most, err2)
		}
	}
	other := of(1, []int{1, 0}, []int{1})
	if _, err := play.Lost(other, []api.Position{at(0, func(p *api.Position) { p.Budget = 1 })}, []int{-1}); err != api.ErrState {
		t.Error(err) // the departure does not allow it
	}
	if _, err := play.Lost(other, []api.Position{at(1, func(p *api.Position) { p.Failed[1] = true; p.Starts[1] = 1 })}, []int{1}); err != api.ErrNone {
		t.Error(err)
	}
	failed := of(1, []int{1}, []int{0})
	if _, err := play.Lost(failed, []api.Position{{Starts: []int{1}, Failed: []bool{true}, Choice: 0}}, []int{0}); err != api.ErrState {
		t.Error(err)
	}
	// The error of the first fails against which it gets stuck.
	stuck := of(1, []int{1, 1}, []int{0, 1})
	p := []api.Position{{Starts: []int{1, 1}, Failed: []bool{false, false}, Budget: 1, Choice: -1}, {Starts: []int{1, 1}, Failed: []bool{false, true}, Choice: 1}}
	if _, _, err := play.Worst(stuck, p); err != api.ErrNone {
		t.Error(err)
	}
	p = append(p, api.Position{Starts: []int{1, 1}, Failed: []bool{true, false}, Choice: -1})
	if _, _, err := play.Worst(stuck, p); err != api.ErrState {
		t.Error(err)
	}
}

func TestWorst(t *testing.T) { // P41.1: AO2
	g := of(1, []int{2}, []int{0}, []int{0})
	if fails, lost, err := play.Worst(g, plan(t, g)); !slices.Equal(fails, []int{0, -1}) || lost != 2 || err != api.OK {
		t.Error(fails, lost, err)
	}
	if fails, lost, err := play.Worst(of(1, []int{2}), nil); len(fails) != 0 || lost != 0 || err != api.OK {
		t.Error(fails, lost, err)
	}
	if fails, lost, err := play.Worst(of(4, nil), nil); len(fails) != 0 || lost != 0 || err != api.ErrArg {
		t.Error(fails, lost, err)
	}
}

// allowed returns all allowed fails in order.
func allowed(g api.Game) [][]int {
	l := [][]int{nil}
	for range g.Departures {
		var longer [][]int
		for _, fails := range l {
			for v := -1; v < len(g.Starts); v++ {
				number := len(slices.DeleteFunc(slices.Clone(fails), func(v int) bool { return v < 0 }))
				if v < 0 || number < g.Budget && !slices.Contains(fails, v) {
					longer = append(longer, append(slices.Clone(fails), v))
				}
			}
		}
		l = longer
	}
	return l
}

// each calls a function with random games and plans, some of which are spoilt.
func each(t *testing.T, seed int64, check func(r *rand.Rand, g api.Game, p []api.Position)) {
	t.Helper()
	r := rand.New(rand.NewSource(seed))
	for range 150 {
		g := sample.RandomGame(r.Intn, 3, 4)
		p := plan(t, g)
		if r.Intn(2) == 0 && len(p) > 0 {
			p[r.Intn(len(p))].Choice = -1
			if r.Intn(2) == 0 {
				p = slices.Delete(p, 0, r.Intn(min(3, len(p))))
			}
		}
		check(r, g, p)
	}
}

func TestCertifiedPlans(t *testing.T) { // P41.2
	r := rand.New(rand.NewSource(1))
	for range 150 {
		g := sample.RandomGame(r.Intn, 3, 4)
		want, _ := game.Value(g)
		if _, lost, err := play.Worst(g, plan(t, g)); lost != want || err != api.OK {
			t.Fatal(g, lost, want, err)
		}
	}
}

func TestTheWorstOnes(t *testing.T) { // P41.3, P41.5 and P41.6
	stuck := 0
	each(t, 2, func(_ *rand.Rand, g api.Game, p []api.Position) {
		fails, most, err := play.Worst(g, p)
		first := api.OK
		for _, f := range allowed(g) {
			if _, err2 := play.Lost(g, p, f); first == api.OK {
				first = err2
			}
		}
		if err != first || err != api.OK && (fails != nil || most != 0) {
			t.Fatal("stuck:", g, p, err, first)
		}
		if err != api.OK {
			stuck++
			return
		}
		before := true
		results := map[string][]int{}
		for _, f := range allowed(g) {
			lost, _ := play.Lost(g, p, f)
			if before = before && !slices.Equal(f, fails); before && lost >= most || lost > most {
				t.Fatal(g, p, fails, most, f, lost)
			}
			if slices.Equal(f, fails) && lost != most {
				t.Fatal(g, p, fails, most, lost)
			}
			last := len(f)
			for last > 0 && f[last-1] < 0 {
				last--
			}
			if last == 0 && (g.Budget == 0 && lost != most || lost > most) {
				t.Fatal("without failures:", g, p, lost, most)
			}
			for turn := range f { // those that are the same up to a turn differ by later turns only
				key := string(rune('a'+turn)) + string(toBytes(f[:turn]))
				results[key] = append(results[key], lost)
				if slices.Max(results[key])-slices.Min(results[key]) > len(f)-turn {
					t.Fatal("beginnings:", g, p, f)
				}
			}
		}
	})
	if stuck < 5 {
		t.Error("too few plans got stuck:", stuck)
	}
}

func toBytes(l []int) []byte {
	var b []byte
	for _, n := range l {
		b = append(b, byte(n+1))
	}
	return b
}

func TestPositions(t *testing.T) { // P41.4
	each(t, 3, func(r *rand.Rand, g api.Game, p []api.Position) {
		other := sample.RandomGame(r.Intn, 3, 4)
		more := append(slices.Clone(p), plan(t, other)...)
		for _, q := range p {
			q.Choice = 7
			more = append(more, q)
		}
		for _, f := range allowed(g) {
			lost, err := play.Lost(g, p, f)
			if again, err2 := play.Lost(g, more, f); err == api.OK && (again != lost || err2 != api.OK) {
				t.Fatal(g, p, f)
			}
		}
	})
}
