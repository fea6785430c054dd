package judge_test

import (
	"math"
	"math/rand"
	"slices"
	"testing"

	"bogie/api"
	"bogie/game"
	"bogie/judge"
	"bogie/play"
	"bogie/sample"
)

func of(budget int, starts []int, departures ...[]int) api.Game {
	return api.Game{Starts: starts, Departures: departures, Budget: budget}
}

func at(turn, start int, failed bool, budget, choice, bound int) api.Position {
	return api.Position{Turn: turn, Starts: []int{start}, Failed: []bool{failed}, Budget: budget, Choice: choice, Bound: bound}
}

func TestValues(t *testing.T) { // P42.1
	one := []int{0}
	free, failed := at(0, 1, false, 1, 0, 0), at(0, 1, true, 0, -1, 1)
	with := func(p api.Position, change func(p *api.Position)) []api.Position {
		p.Starts, p.Failed = slices.Clone(p.Starts), slices.Clone(p.Failed)
		change(&p)
		return []api.Position{p}
	}
	alone := at(0, 1, false, 0, 0, 0)
	for i, c := range []struct {
		g     api.Game
		plan  []api.Position
		bound int
		want  bool
	}{
		{of(0, []int{1}, one), []api.Position{alone}, 0, true}, {of(1, []int{1}, one), []api.Position{free, failed}, 1, true}, {of(1, []int{1}, one), []api.Position{free, failed}, 0, false}, {of(1, []int{1}, one), []api.Position{free}, 1, false}, {of(1, []int{1}, one), []api.Position{failed}, 1, false}, {of(1, []int{1}, one), nil, 9, false},
		{of(1, []int{1}), nil, 0, true}, {of(1, []int{1}), nil, -1, false}, {of(1, []int{1}), []api.Position{free}, 5, true}, {of(4, nil), nil, 0, false}, {of(0, []int{13}), nil, 0, false}, {of(0, []int{1}, []int{1}), nil, 0, false}, {of(0, []int{1, 1}, []int{1, 0}), nil, 0, false}, {of(0, make([]int, 7)), nil, 0, false}, {of(0, nil, make([][]int, 13)...), nil, 99, false}, {of(-1, nil), nil, 0, false}, {of(0, []int{-1}), nil, 0, false}, {of(0, []int{1, 1}, []int{-1}), nil, 0, false},
		{of(0, []int{1}, one), with(alone, func(p *api.Position) { p.Bound = -1 }), 0, false}, {of(0, []int{1}, one), with(alone, func(p *api.Position) { p.Bound = 1 }), 0, false}, {of(0, []int{1}, one), with(alone, func(p *api.Position) { p.Bound = 7 }), 7, true}, {of(0, []int{1}, one), with(alone, func(p *api.Position) { p.Choice, p.Bound = -1, 0 }), 0, false}, {of(0, []int{1}, one), with(alone, func(p *api.Position) { p.Choice, p.Bound = -1, 1 }), 1, true}, {of(0, []int{1}, one), with(alone, func(p *api.Position) { p.Choice = 1 }), 0, false}, {of(0, []int{1}, one), with(alone, func(p *api.Position) { p.Choice = -2 }), 0, false},
		{of(0, []int{1}, one), with(alone, func(p *api.Position) { p.Starts[0] = 2 }), 0, false}, {of(0, []int{1}, one), with(alone, func(p *api.Position) { p.Turn = 1 }), 0, false}, {of(0, []int{1}, one), with(alone, func(p *api.Position) { p.Budget = 1 }), 0, false}, {of(0, []int{1}, one), with(alone, func(p *api.Position) { p.Failed[0] = true }), 0, false}, {of(0, []int{1}, one), with(alone, func(p *api.Position) { p.Starts = []int{1, 0} }), 0, false}, {of(0, []int{1}, one), with(alone, func(p *api.Position) { p.Failed = nil }), 0, false},
		{of(0, []int{1}, nil), []api.Position{alone}, 0, false}, {of(0, []int{0}, one), with(alone, func(p *api.Position) { p.Starts[0] = 0 }), 0, false}, {of(1, []int{1}, one), []api.Position{free, at(0, 1, true, 0, 0, 0)}, 1, false},
		{of(0, []int{1}, one), []api.Position{at(0, 1, false, 0, -1, 0), alone}, 0, false}, {of(0, []int{1}, one), []api.Position{alone, at(0, 1, false, 0, -1, 0)}, 0, true},
		// Two turns: what is lost, and the bound that follows, are together not greater.
		{of(0, []int{1}, one, one), []api.Position{at(0, 1, false, 0, 0, 1), at(1, 0, false, 0, -1, 1)}, 1, true}, {of(0, []int{1}, one, one), []api.Position{at(0, 1, false, 0, 0, 0), at(1, 0, false, 0, -1, 1)}, 1, false}, {of(0, []int{1}, one, one), []api.Position{at(0, 1, false, 0, -1, 1), at(1, 1, false, 0, 0, 0)}, 1, true}, {of(0, []int{1}, one, one), []api.Position{at(0, 1, false, 0, -1, 1), at(1, 1, false, 0, 0, 1)}, 1, false}, {of(0, []int{1}, one, one), []api.Position{at(0, 1, false, 0, -1, 2), at(1, 1, false, 0, 0, 1)}, 2, true}, {of(0, []int{1}, one, one), []api.Position{at(0, 1, false, 0, 0, 1)}, 1, false},
		{of(0, []int{1}, one, one), []api.Position{at(0, 1, false, 0, -1, math.MinInt), at(1, 1, false, 0, 0, math.MaxInt)}, math.MaxInt, false}, {of(0, []int{1}, one, one), []api.Position{at(0, 1, false, 0, -1, math.MaxInt), at(1, 1, false, 0, 0, math.MaxInt-1)}, math.MaxInt, true}, {of(0, []int{1}, one, one), []api.Position{at(0, 1, false, 0, -1, math.MaxInt), at(1, 1, false, 0, 0, math.MaxInt)}, math.MaxInt, false},
		{of(0, nil, nil, nil), []api.Position{{Choice: -1, Bound: 2}, {Turn: 1, Choice: -1, Bound: 1}}, 2, true},
	} {
		if judge.Accept(c.g, c.plan, c.bound) != c.want {
			t.Error(i)
		}
	}
}

func TestGames(t *testing.T) { // P42.1: which games are valid
	for i, c := range []struct {
		g    api.Game
		want bool
	}{{of(3, slices.Repeat([]int{12}, 6)), true}, {of(0, []int{0}), true}, {of(3, slices.Repeat([]int{12}, 7)), false}, {of(4, []int{1}), false}, {of(-1, []int{1}), false}, {of(0, []int{13}), false}, {of(0, []int{1, -1}), false}} {
		if judge.Accept(c.g, nil, 0) != c.want {
			t.Error(i)
		}
	}
	// A plan that loses all departures, however many, and whatever they allow.
	for i, c := range []struct {
		departures [][]int
		want       bool
	}{{make([][]int, 12), true}, {make([][]int, 13), false}, {[][]int{{0, 1}}, true}, {[][]int{{1}}, true}, {[][]int{{0, 0}}, false}, {[][]int{{1, 0}}, false}, {[][]int{{2}}, false}, {[][]int{{-1}}, false}, {[][]int{{0}, {0, 2}}, false}} {
		var plan []api.Position
		for turn := range c.departures {
			plan = append(plan, api.Position{Turn: turn, Starts: []int{1, 1}, Failed: []bool{false, false}, Choice: -1, Bound: len(c.departures) - turn})
		}
		if judge.Accept(of(0, []int{1, 1}, c.departures...), plan, len(c.departures)) != c.want {
			t.Error(i)
		}
	}
}

// each calls a function with random games and plans, some of which are spoilt.
func each(t *testing.T, seed int64, check func(r *rand.Rand, g api.Game, plan []api.Position)) {
	t.Helper()
	r := rand.New(rand.NewSource(seed))
	for range 300 {
		g := sample.RandomGame(r.Intn, 3, 4)
		plan, err := game.Plan(g)
		if err != api.OK {
			t.Fatal(err)
		}
		if len(plan) > 0 && r.Intn(2) == 0 {
			p := &plan[r.Intn(len(plan))]
			switch r.Intn(3) {
			case 0:
				p.Bound += r.Intn(3) - 1
			case 1:
				p.Choice = r.Intn(4) - 1
			default:
				p.Budget++
			}
		}
		check(r, g, plan)
	}
}

func TestSound(t *testing.T) { // P42.2 and P42.3
	accepted, refused := 0, 0
	each(t, 1, func(_ *rand.Rand, g api.Game, plan []api.Position) {
		_, lost, err := play.Worst(g, plan)
		last := false
		for bound := -1; bound < 7; bound++ {
			got := judge.Accept(g, plan, bound)
			if got && (err != api.OK || lost > bound || bound < 0) || last && !got {
				t.Fatal(g, plan, bound, lost, err)
			}
			last = got
		}
		if last {
			accepted++
		} else {
			refused++
		}
	})
	if accepted < 100 || refused < 20 {
		t.Error("too few cases:", accepted, refused)
	}
}

func TestComplete(t *testing.T) { // P42.2: plans are accepted with their value, and with no lesser bound
	r := rand.New(rand.NewSource(2))
	for range 300 {
		g := sample.RandomGame(r.Intn, 3, 4)
		plan, _ := game.Plan(g)
		value, _ := game.Value(g)
		if !judge.Accept(g, plan, value) || judge.Accept(g, plan, value-1) {
			t.Fatal(g, plan, value)
		}
	}
}

func TestFurtherPositions(t *testing.T) { // P42.4 and P42.5
	each(t, 3, func(r *rand.Rand, g api.Game, plan []api.Position) {
		other, _ := game.Plan(sample.RandomGame(r.Intn, 3, 4))
		more := append(append(slices.Clone(plan), other...), plan...)
		bound := r.Intn(5)
		if judge.Accept(g, plan, bound) && !judge.Accept(g, more, bound) {
			t.Fatal("further positions:", g, plan, bound)
		}
		if len(plan) > 0 && judge.Accept(g, plan, bound) != judge.Accept(g, append(slices.Clone(plan), plan[r.Intn(len(plan))]), bound) {
			t.Fatal("repeated positions:", g, plan, bound)
		}
		if len(g.Departures) == 0 {
			return
		}
		begins := func(p api.Position) bool {
			return p.Turn == 0 && slices.Equal(p.Starts, g.Starts) && !slices.Contains(p.Failed, true) && p.Budget == g.Budget
		}
		if judge.Accept(g, slices.DeleteFunc(slices.Clone(plan), begins), 99) {
			t.Fatal("without the beginning:", g, plan)
		}
		if i := slices.IndexFunc(plan, begins); i >= 0 && judge.Accept(g, plan, plan[i].Bound-1) {
			t.Fatal("a lesser bound:", g, plan)
		}
	})
}

func TestAllIsLost(t *testing.T) { // P42.6
	for departures := 1; departures < 4; departures++ {
		g := of(1, []int{1, 2})
		var plan []api.Position
		for turn := range departures {
			g.Departures = append(g.Departures, []int{0, 1})
			for mask := range 4 {
				for budget := range 2 {
					plan = append(plan, api.Position{Turn: turn, Starts: []int{1, 2}, Failed: []bool{mask&1 > 0, mask&2 > 0}, Budget: budget, Choice: -1, Bound: departures - turn})
				}
			}
		}
		if !judge.Accept(g, plan, departures) || judge.Accept(g, plan, departures-1) {
			t.Error(departures)
		}
	}
}
