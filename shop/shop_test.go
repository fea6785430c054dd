package shop_test

import (
	"math/rand"
	"slices"
	"testing"

	"bogie/api"
	"bogie/shop"
	"bogie/task"
)

func of(hours, skill int, bay bool, after ...int) api.Task {
	return api.Task{Hours: hours, Skill: skill, Bay: bay, After: after}
}

func example() []api.Task {
	return []api.Task{of(2, 0, true), of(3, 0, false), of(1, 0, true, 0)}
}

func staff(bays int, people ...int) api.Shop { return api.Shop{Staff: people, Bays: bays} }

func TestPlan(t *testing.T) { // P38.1: AL1
	for i, c := range []struct {
		l    []api.Task
		s    api.Shop
		want []int
		err  api.Errno
	}{
		{example(), staff(1, 2), []int{0, 0, 2}, 0}, {example(), staff(1, 1), []int{0, 2, 5}, 0}, {example(), staff(0, 2), nil, api.ErrNone}, {example(), staff(1), nil, api.ErrNone}, {example(), staff(1, 0), nil, api.ErrNone}, {[]api.Task{of(1, 1, false)}, staff(1, 5), nil, api.ErrNone}, {nil, staff(0), nil, 0},
		{[]api.Task{of(5, 0, false, 1), of(2, 0, false)}, staff(0, 1), []int{2, 0}, 0}, {[]api.Task{of(5, 0, true), of(2, 1, true), of(1, 1, false)}, staff(1, 1, 1), []int{0, 5, 0}, 0}, {[]api.Task{of(1, 0, false, 0)}, staff(0, 1), nil, api.ErrCycle}, {[]api.Task{of(1, 0, false, 0)}, staff(0), nil, api.ErrCycle}, {[]api.Task{of(0, 0, false)}, staff(0), nil, api.ErrArg},
		{nil, staff(-1), nil, api.ErrArg}, {nil, staff(61), nil, api.ErrArg}, {nil, staff(60, 60, 60, 0, 0, 0, 0, 0, 0), nil, 0}, {nil, staff(0, 1, 1, 1, 1, 1, 1, 1, 1, 1), nil, api.ErrArg}, {nil, staff(0, -1), nil, api.ErrArg}, {nil, staff(0, 61), nil, api.ErrArg}, {[]api.Task{of(1, 0, false, 0)}, staff(0, 61), nil, api.ErrArg},
	} {
		if got, err := shop.Plan(c.l, c.s); !slices.Equal(got, c.want) || err != c.err {
			t.Error(i, got, err)
		}
	}
}

func TestCheck(t *testing.T) { // P38.1: AL2
	for i, c := range []struct {
		l      []api.Task
		s      api.Shop
		starts []int
		want   bool
	}{
		{example(), staff(1, 2), []int{0, 0, 2}, true}, {example(), staff(1, 2), []int{0, 0, 1}, false}, {example(), staff(1, 1), []int{0, 0, 2}, false}, {example(), staff(1, 1), []int{0, 2, 5}, true}, {example(), staff(1, 1), []int{0, 2, 4}, false}, {example(), staff(0, 2), []int{0, 0, 2}, false}, {example(), staff(1), []int{0, 2, 5}, false}, {example(), staff(1, 2), []int{7, 9999999, 9}, true}, {example(), staff(1, 2), []int{7, 10000000, 9}, false}, {example(), staff(1, 2), []int{-1, 0, 2}, false}, {example(), staff(1, 2), []int{0, 0}, false}, {example(), staff(1, 2), nil, false},
		{nil, staff(0), nil, true}, {nil, staff(-1), nil, false}, {[]api.Task{of(1, 0, false, 0)}, staff(0, 1), []int{0}, false}, {[]api.Task{of(0, 0, false)}, staff(0, 1), []int{0}, false}, {[]api.Task{of(5, 0, true), of(5, 1, true)}, staff(1, 1, 1), []int{0, 4}, false}, {[]api.Task{of(5, 0, true), of(5, 1, true)}, staff(1, 1, 1), []int{0, 5}, true}, {[]api.Task{of(5, 0, true), of(5, 1, true)}, staff(1, 1, 1), []int{4, 0}, false}, {[]api.Task{of(1, 3, false)}, staff(0, 1, 1, 1), []int{0}, false},
	} {
		if shop.Check(c.l, c.s, c.starts) != c.want {
			t.Error(i)
		}
	}
}

func TestLength(t *testing.T) { // P38.1: AL3, and P38.7
	for i, c := range []struct {
		l      []api.Task
		starts []int
		want   int
		err    api.Errno
	}{{example(), []int{0, 0, 2}, 3, 0}, {example(), []int{0, 2, 5}, 6, 0}, {example(), []int{9999999, 0, 0}, 10000001, 0}, {nil, nil, 0, 0}, {example(), []int{0, 0}, 0, api.ErrArg}, {example(), []int{0, 0, -1}, 0, api.ErrArg}, {example(), []int{0, 0, 10000000}, 0, api.ErrArg}, {[]api.Task{of(0, 0, false)}, []int{0}, 0, api.ErrArg}} {
		if got, err := shop.Length(c.l, c.starts); got != c.want || err != c.err {
			t.Error(i, got, err)
		}
	}
}

// each calls a function with random tasks and a shop that have a plan.
func each(t *testing.T, seed int64, check func(r *rand.Rand, l []api.Task, s api.Shop, plan []int)) {
	t.Helper()
	r := rand.New(rand.NewSource(seed))
	for range 500 {
		var l []api.Task
		for i := range r.Intn(9) {
			x := of(1+r.Intn(6), r.Intn(3), r.Intn(2) == 0)
			for j := range i {
				if r.Intn(5) == 0 {
					x.After = append(x.After, j)
				}
			}
			l = append(l, x)
		}
		s := staff(1+r.Intn(2), 1+r.Intn(2), 1+r.Intn(3), 1)
		plan, err := shop.Plan(l, s)
		if err != api.OK {
			t.Fatal(l, s, err)
		}
		check(r, l, s, plan)
	}
}

// running returns the tasks that run at an hour.
func running(l []api.Task, starts []int, hour int) []int {
	var now []int
	for i, x := range l {
		if starts[i] <= hour && hour < starts[i]+x.Hours {
			now = append(now, i)
		}
	}
	return now
}

func TestNoWaiting(t *testing.T) { // P38.2 and P38.3
	each(t, 1, func(_ *rand.Rand, l []api.Task, s api.Shop, plan []int) {
		if !shop.Check(l, s, plan) {
			t.Fatal(l, s, plan)
		}
		length, _ := shop.Length(l, plan)
		for hour := range length + 1 {
			skills, bays := [3]int{}, 0
			for _, i := range running(l, plan, hour) {
				skills[l[i].Skill]++
				if l[i].Bay {
					bays++
				}
			}
			if bays > s.Bays || skills[0] > s.Staff[0] || skills[1] > s.Staff[1] || skills[2] > s.Staff[2] {
				t.Fatal("not possible:", l, s, plan, hour)
			}
			for i, x := range l {
				waits := slices.ContainsFunc(x.After, func(j int) bool { return plan[j]+l[j].Hours > hour })
				if hour < plan[i] && !waits && skills[x.Skill] < s.Staff[x.Skill] && (!x.Bay || bays < s.Bays) {
					t.Fatal("waits in vain:", l, s, plan, hour, i)
				}
			}
		}
	})
}

func TestBounds(t *testing.T) { // P38.4
	each(t, 2, func(_ *rand.Rand, l []api.Task, s api.Shop, plan []int) {
		length, _ := shop.Length(l, plan)
		critical, _ := task.Critical(l)
		sum := 0
		for _, x := range l {
			sum += x.Hours
		}
		rich, _ := shop.Plan(l, staff(60, 60, 60, 60))
		if best, _ := shop.Length(l, rich); length < critical || length > sum || best != critical {
			t.Fatal(l, s, plan, critical, sum, best)
		}
	})
}

func TestLaterAndFewer(t *testing.T) { // P38.5, P38.6 and P38.7
	each(t, 3, func(r *rand.Rand, l []api.Task, s api.Shop, plan []int) {
		starts := slices.Clone(plan)
		for i := range starts { // any starts, possible or not
			starts[i] += r.Intn(2) * r.Intn(3)
		}
		possible := shop.Check(l, s, starts)
		later := slices.Clone(starts)
		for i := range later {
			later[i] += 1000
		}
		more := staff(s.Bays+r.Intn(2), s.Staff[0]+r.Intn(2), s.Staff[1], s.Staff[2]+1)
		if possible != shop.Check(l, s, later) || possible && !shop.Check(l, more, starts) {
			t.Fatal(l, s, starts)
		}
		if len(l) == 0 {
			return
		}
		last := len(l) - 1
		if possible && !shop.Check(l[:last], s, starts[:last]) {
			t.Fatal("fewer tasks:", l, s, starts)
		}
		length, _ := shop.Length(l, starts)
		ends := false
		for i, x := range l {
			end := starts[i] + x.Hours
			ends = ends || end == length
			if end > length {
				t.Fatal(l, starts, length)
			}
		}
		if !ends {
			t.Fatal(l, starts, length)
		}
	})
}
