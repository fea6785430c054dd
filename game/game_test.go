package game_test

import (
	"cmp"
	"fmt"
	"math/rand"
	"reflect"
	"slices"
	"testing"

	"bogie/api"
	"bogie/game"
	"bogie/sample"
)

func of(budget int, starts []int, departures ...[]int) api.Game {
	return api.Game{Starts: starts, Departures: departures, Budget: budget}
}

var both = []int{0, 1}

func TestValid(t *testing.T) { // P40.1: AN1
	for i, g := range []api.Game{{}, of(3, []int{0, 12}, both, nil, []int{1}), of(0, make([]int, 6)), of(0, nil, make([][]int, 12)...)} {
		if !game.Valid(g) {
			t.Error(i)
		}
	}
	for i, g := range []api.Game{of(-1, nil), of(4, nil), of(0, []int{-1}), of(0, []int{13}), of(0, make([]int, 7)), of(0, nil, make([][]int, 13)...), of(0, []int{1}, []int{1}), of(0, []int{1}, []int{-1}), of(0, []int{1, 1}, []int{1, 0}), of(0, []int{1, 1}, []int{0, 0})} {
		n, err := game.Value(g)
		plan, err2 := game.Plan(g)
		if game.Valid(g) || n != 0 || err != api.ErrArg || plan != nil || err2 != api.ErrArg {
			t.Error(i)
		}
	}
}

func TestValue(t *testing.T) { // P40.1: AN2
	for i, c := range []struct {
		g    api.Game
		want int
		err  api.Errno
	}{
		{of(1, []int{1, 2}, both, both, both), 2, 0}, {of(0, []int{1, 2}, both, both, both), 0, 0}, {of(2, []int{1, 2}, both, both, both), 2, 0}, {of(0, []int{1, 1}, both, []int{0}), 0, 0}, {of(0, nil, nil, nil), 2, 0}, {of(3, []int{5}), 0, 0}, {of(1, []int{5}, []int{0}), 1, 0},
		// 26 * 26 * 26 * 10 is not too much, 26 * 26 * 26 * 12 is; without departures the number counts as 1.
		{of(0, []int{12, 12, 12, 4}, both), 0, 0}, {of(0, []int{12, 12, 12, 5}, both), 0, api.ErrLimit}, {of(1, []int{12, 12, 12, 4}, both), 0, api.ErrLimit}, {of(0, []int{12, 12, 12, 4}, both, both), 0, api.ErrLimit}, {of(0, []int{12, 12, 12, 5}), 0, api.ErrLimit}, {of(0, []int{12, 12, 12, 4}), 0, 0}, {of(1, []int{12, 12, 12, 1}, both), 0, 0},
		{of(0, []int{4, 4, 4, 4, 4}, both, both), 0, 0}, {of(1, []int{4, 4, 4, 4, 4}, both), 0, 0}, {of(1, []int{4, 4, 4, 4, 4}, both, both), 0, api.ErrLimit}, {of(3, []int{1, 1, 1, 1, 1, 1}, both), 0, 0},
	} {
		n, err := game.Value(c.g)
		_, err2 := game.Plan(c.g)
		if n != c.want || err != c.err || err2 != c.err {
			t.Error(i, n, err)
		}
	}
}

// value computes the value before a move of the adversary, with nothing remembered.
func value(g api.Game, failed int) int {
	if len(g.Departures) == 0 {
		return 0
	}
	worst := choose(g, failed)
	for v := range g.Starts {
		if g.Budget > 0 && failed>>v&1 == 0 {
			less := g
			less.Budget--
			worst = max(worst, choose(less, failed|1<<v))
		}
	}
	return worst
}

func choose(g api.Game, failed int) int {
	rest := g
	rest.Departures = g.Departures[1:]
	best := 1 + value(rest, failed)
	for _, v := range g.Departures[0] {
		if failed>>v&1 == 0 && g.Starts[v] > 0 {
			rest.Starts = slices.Clone(g.Starts)
			rest.Starts[v]--
			best = min(best, value(rest, failed))
		}
	}
	return best
}

func each(seed int64, check func(r *rand.Rand, g api.Game, lost int)) {
	r := rand.New(rand.NewSource(seed))
	for range 200 {
		g := sample.RandomGame(r.Intn, 3, 4)
		n, _ := game.Value(g)
		check(r, g, n)
	}
}

func TestMinimax(t *testing.T) { // P40.2
	found := map[int]bool{}
	each(1, func(_ *rand.Rand, g api.Game, lost int) {
		found[lost] = true
		if want := value(g, 0); lost != want {
			t.Fatal(g, lost, want)
		}
	})
	if len(found) < 4 {
		t.Error("too few values:", found)
	}
}

func of2(g api.Game, change func(g *api.Game)) int {
	c := api.Game{Starts: slices.Clone(g.Starts), Budget: g.Budget}
	for _, l := range g.Departures {
		c.Departures = append(c.Departures, slices.Clone(l))
	}
	change(&c)
	n, _ := game.Value(c)
	return n
}

func TestMoreAndBounds(t *testing.T) { // P40.3, P40.4 and P40.7
	each(2, func(r *rand.Rand, g api.Game, lost int) {
		v := r.Intn(len(g.Starts))
		if of2(g, func(g *api.Game) { g.Starts[v]++ }) > lost || of2(g, func(g *api.Game) { g.Budget++ }) < lost || of2(g, func(g *api.Game) { g.Departures = append(g.Departures, []int{v}) }) < lost {
			t.Fatal("more:", g, lost)
		}
		impossible := 0
		for d, l := range g.Departures {
			if !slices.ContainsFunc(l, func(v int) bool { return g.Starts[v] > 0 }) {
				impossible++
			}
			if !slices.Contains(l, v) && of2(g, func(g *api.Game) { g.Departures[d] = append(g.Departures[d], v); slices.Sort(g.Departures[d]) }) > lost {
				t.Fatal("more vehicles are allowed:", g, lost)
			}
		}
		if lost < impossible || lost > len(g.Departures) {
			t.Fatal("bounds:", g, lost)
		}
		names := r.Perm(len(g.Starts))
		other := of2(g, func(c *api.Game) {
			for v, name := range names {
				c.Starts[name] = g.Starts[v]
			}
			for d := range c.Departures {
				for i, v := range c.Departures[d] {
					c.Departures[d][i] = names[v]
				}
				slices.Sort(c.Departures[d])
			}
		})
		if other != lost {
			t.Fatal("names:", g, lost, other)
		}
	})
}

// name returns a position without its choice and bound, so that names are ordered as positions are.
func name(turn int, starts []int, failed []bool, budget int) string {
	s := fmt.Sprintf("%02d", turn)
	for _, n := range starts {
		s += fmt.Sprintf(" %02d", n)
	}
	for _, f := range failed {
		s += map[bool]string{false: "0", true: "1"}[f]
	}
	return s + fmt.Sprint(budget)
}

func TestPlans(t *testing.T) { // P40.5, P40.6, and P40.1: AN3
	each(3, func(_ *rand.Rand, g api.Game, lost int) {
		plan, err := game.Plan(g)
		found := map[string]api.Position{}
		last := ""
		for _, p := range plan {
			n := name(p.Turn, p.Starts, p.Failed, p.Budget)
			if n <= last {
				t.Fatal("not in order:", g, plan)
			}
			last = n
			found[n] = p
		}
		needed := map[string]bool{}
		// met returns the greatest bound of the positions that follow a move of the adversary.
		var met func(turn int, starts []int, failed []bool, budget int) int
		met = func(turn int, starts []int, failed []bool, budget int) int {
			if turn == len(g.Departures) {
				return 0
			}
			worst := 0
			for v := -1; v < len(starts); v++ {
				f, b := slices.Clone(failed), budget
				if v >= 0 {
					if failed[v] || budget == 0 {
						continue
					}
					f[v], b = true, budget-1
				}
				n := name(turn, starts, f, b)
				p, ok := found[n]
				if !ok {
					t.Fatal("missing:", g, n)
				}
				worst = max(worst, p.Bound)
				if needed[n] {
					continue
				}
				needed[n] = true
				left := slices.Clone(starts)
				now := 1
				if p.Choice >= 0 {
					if !slices.Contains(g.Departures[turn], p.Choice) || f[p.Choice] || left[p.Choice] == 0 {
						t.Fatal("not possible:", g, p)
					}
					left[p.Choice]--
					now = 0
				}
				if then := met(turn+1, left, f, b); p.Bound != now+then {
					t.Fatal("bound:", g, p, now, then)
				}
				best(t, g, p)
			}
			return worst
		}
		if got := met(0, g.Starts, make([]bool, len(g.Starts)), g.Budget); err != api.OK || got != lost || len(needed) != len(plan) {
			t.Fatal(g, got, lost, len(needed), len(plan), err)
		}
	})
}

// best checks that a choice is the first one that leads to the value.
func best(t *testing.T, g api.Game, p api.Position) {
	t.Helper()
	rest := api.Game{Starts: p.Starts, Departures: g.Departures[p.Turn:], Budget: p.Budget}
	failed := 0
	for v, f := range p.Failed {
		if f {
			failed |= 1 << v
		}
	}
	if choose(rest, failed) != p.Bound {
		t.Fatal("value:", g, p)
	}
	then := rest
	then.Departures = rest.Departures[1:]
	for _, v := range rest.Departures[0] {
		if failed>>v&1 == 1 || p.Starts[v] == 0 || p.Choice >= 0 && v >= p.Choice {
			continue
		}
		then.Starts = slices.Clone(p.Starts)
		then.Starts[v]--
		if value(then, failed) == p.Bound {
			t.Fatal("a lesser vehicle:", g, p, v)
		}
	}
}

func TestReproducible(t *testing.T) { // P3, and P40.1: AN3
	g := of(1, []int{1, 2}, both, both, both)
	a, _ := game.Plan(g)
	b, _ := game.Plan(g)
	if !reflect.DeepEqual(a, b) || !slices.IsSortedFunc(a, func(x, y api.Position) int { return cmp.Compare(x.Turn, y.Turn) }) {
		t.Error(a, b)
	}
	if len(a) == 0 || !reflect.DeepEqual(a[0], api.Position{Turn: 0, Starts: []int{1, 2}, Failed: []bool{false, false}, Budget: 1, Choice: 1, Bound: 1}) {
		t.Error(a)
	}
	a[0].Starts[0], a[0].Failed[0] = 9, true
	if g.Starts[0] != 1 || b[0].Failed[0] {
		t.Error("shared memory")
	}
	if plan, err := game.Plan(of(2, []int{1})); len(plan) != 0 || err != api.OK {
		t.Error(plan, err)
	}
}
