package task_test

import (
	"math"
	"math/rand"
	"slices"
	"testing"

	"bogie/api"
	"bogie/task"
)

func of(hours int, after ...int) api.Task { return api.Task{Hours: hours, After: after} }

func example() []api.Task { return []api.Task{of(3), of(2, 0), of(4), of(1, 1, 2)} }

func TestValid(t *testing.T) { // P37.1: AK1
	for i, l := range [][]api.Task{nil, example(), {of(1000)}, {{Hours: 1, Skill: 7}}, slices.Repeat([]api.Task{of(1)}, 40), {of(1, 0)}, {of(1, 1), of(1, 0)}} {
		if !task.Valid(l) {
			t.Error(i)
		}
	}
	for i, l := range [][]api.Task{{of(0)}, {of(1001)}, {of(-1)}, {{Hours: 1, Skill: 8}}, {{Hours: 1, Skill: -1}}, {of(1, 1)}, {of(1, -1)}, {of(1), of(1, 0, 0)}, {of(1), of(1, 1, 0)}, slices.Repeat([]api.Task{of(1)}, 41)} {
		order, err := task.Order(l)
		hours, err2 := task.Critical(l)
		undone, err3 := task.Undo(l, make([]bool, len(l)), 0)
		if task.Valid(l) || order != nil || err != api.ErrArg || hours != 0 || err2 != api.ErrArg || len(task.Ready(l, make([]bool, len(l)))) != 0 || undone != nil || err3 != api.ErrArg {
			t.Error(i)
		}
	}
}

func TestOrder(t *testing.T) { // P37.1: AK2
	for i, c := range []struct {
		l     []api.Task
		want  []int
		hours int
		err   api.Errno
	}{
		{example(), []int{0, 1, 2, 3}, 6, 0}, {nil, nil, 0, 0}, {[]api.Task{of(1, 2), of(5), of(1)}, []int{1, 2, 0}, 5, 0}, {[]api.Task{of(1, 3), of(1, 0), of(1), of(1)}, []int{2, 3, 0, 1}, 3, 0}, {[]api.Task{of(7)}, []int{0}, 7, 0},
		{[]api.Task{of(1, 0)}, nil, 0, api.ErrCycle}, {[]api.Task{of(1), of(1, 2), of(1, 1)}, nil, 0, api.ErrCycle}, {[]api.Task{of(1, 3), of(1, 0), of(1, 1), of(1, 2)}, nil, 0, api.ErrCycle}, {[]api.Task{of(1), of(1, 1), of(1, 0)}, nil, 0, api.ErrCycle},
	} {
		order, err := task.Order(c.l)
		hours, err2 := task.Critical(c.l)
		if !slices.Equal(order, c.want) || hours != c.hours || err != c.err || err2 != c.err {
			t.Error(i, order, hours, err, err2)
		}
	}
}

func TestReady(t *testing.T) { // P37.1: AK3
	for i, c := range []struct {
		done []bool
		want []int
	}{{[]bool{true, false, false, false}, []int{1, 2}}, {make([]bool, 4), []int{0, 2}}, {[]bool{true, true, true, false}, []int{3}}, {[]bool{true, true, true, true}, nil}, {[]bool{false, true, true, false}, []int{0, 3}}, {make([]bool, 3), nil}, {nil, nil}, {make([]bool, 5), nil}} {
		if got := task.Ready(example(), c.done); !slices.Equal(got, c.want) {
			t.Error(i, got)
		}
	}
	if got := task.Ready([]api.Task{of(1, 0), of(1)}, make([]bool, 2)); !slices.Equal(got, []int{1}) {
		t.Error(got)
	}
}

func TestUndoValues(t *testing.T) { // P37.1: AK4
	all := []bool{true, true, true, true}
	cycle := []api.Task{of(1, 1), of(1, 0)}
	for i, c := range []struct {
		l    []api.Task
		done []bool
		task int
		want []bool
		err  api.Errno
	}{
		{example(), all, 0, []bool{false, false, true, false}, 0}, {example(), all, 3, []bool{true, true, true, false}, 0}, {example(), all, 2, []bool{true, true, false, false}, 0}, {example(), []bool{true, false, true, false}, 0, []bool{false, false, true, false}, 0},
		{example(), all[:3], 0, nil, api.ErrArg}, {cycle, []bool{true}, 0, nil, api.ErrArg}, {cycle, all[:2], 9, nil, api.ErrCycle}, {example(), all, 4, nil, api.ErrNone}, {example(), all, -1, nil, api.ErrNone}, {example(), []bool{false, true, true, true}, math.MaxInt, nil, api.ErrNone}, {example(), []bool{false, true, true, true}, 3, nil, api.ErrState}, {example(), []bool{true, false, true, false}, 1, nil, api.ErrState},
	} {
		before := slices.Clone(c.done)
		if got, err := task.Undo(c.l, c.done, c.task); !slices.Equal(got, c.want) || err != c.err || !slices.Equal(before, c.done) {
			t.Error(i, got, err)
		}
	}
}

// random returns valid tasks, some of which may need what comes later.
func random(r *rand.Rand) []api.Task {
	var l []api.Task
	n := 1 + r.Intn(8)
	for i := range n {
		x := of(1 + r.Intn(9))
		for j := range n {
			if r.Intn(5) == 0 && (j < i || r.Intn(6) == 0) {
				x.After = append(x.After, j)
			}
		}
		l = append(l, x)
	}
	return l
}

// needs returns which tasks a task needs.
func needs(l []api.Task, i int) map[int]bool {
	found := map[int]bool{}
	var from func(i int)
	from = func(i int) {
		for _, j := range l[i].After {
			if !found[j] {
				found[j] = true
				from(j)
			}
		}
	}
	from(i)
	return found
}

func TestOrders(t *testing.T) { // P37.2 and P37.3
	r := rand.New(rand.NewSource(1))
	cycles := 0
	for range 1000 {
		l := random(r)
		order, err := task.Order(l)
		cycle := false
		for i := range l {
			cycle = cycle || needs(l, i)[i]
		}
		if (err == api.ErrCycle) != cycle || !cycle && len(order) != len(l) {
			t.Fatal(l, order, err)
		}
		if cycle {
			cycles++
			continue
		}
		done := make([]bool, len(l))
		for _, i := range order {
			if ready := task.Ready(l, done); done[i] || len(ready) == 0 || ready[0] != i {
				t.Fatal(l, order, i)
			}
			done[i] = true
		}
	}
	if cycles < 50 || cycles > 950 {
		t.Error("too few cases:", cycles)
	}
}

func closed(l []api.Task, done []bool) bool {
	for i := range l {
		for j := range needs(l, i) {
			if done[i] && !done[j] {
				return false
			}
		}
	}
	return true
}

func TestReadyAndUndoing(t *testing.T) { // P37.4 and P37.5
	r := rand.New(rand.NewSource(2))
	for range 500 {
		l := random(r)
		if _, err := task.Order(l); err != api.OK {
			continue
		}
		done := make([]bool, len(l))
		for range l {
			ready := task.Ready(l, done)
			if len(ready) == 0 {
				t.Fatal("nothing is ready:", l, done)
			}
			done[ready[r.Intn(len(ready))]] = true
			if !closed(l, done) {
				t.Fatal(l, done)
			}
			i := r.Intn(len(l))
			undone, err := task.Undo(l, done, i)
			if (err == api.OK) != done[i] {
				t.Fatal(l, done, i, err)
			}
			if err != api.OK {
				continue
			}
			for j := range l {
				if undone[j] != (done[j] && j != i && !needs(l, j)[i]) {
					t.Fatal(l, done, i, undone)
				}
			}
			if !closed(l, undone) || !slices.Contains(task.Ready(l, undone), i) {
				t.Fatal(l, done, i, undone)
			}
		}
	}
}

func TestHours(t *testing.T) { // P37.6 and P37.7
	r := rand.New(rand.NewSource(3))
	for range 1000 {
		l := random(r)
		hours, err := task.Critical(l)
		if err != api.OK {
			continue
		}
		longest, sum, free := 0, 0, slices.Clone(l)
		for i, x := range l {
			longest, sum = max(longest, x.Hours), sum+x.Hours
			free[i].After = nil
		}
		if alone, _ := task.Critical(free); hours < longest || hours > sum || alone != longest {
			t.Fatal(l, hours, alone)
		}
		i, j := r.Intn(len(l)), r.Intn(len(l))
		if slices.Contains(l[i].After, j) {
			continue
		}
		more := slices.Clone(l)
		more[i].After = append(slices.Clone(l[i].After), j)
		slices.Sort(more[i].After)
		if later, err := task.Critical(more); err == api.OK && later < hours {
			t.Fatal(l, more)
		}
		done := make([]bool, len(l))
		for k := range done {
			done[k] = r.Intn(2) == 0
		}
		before := task.Ready(l, done)
		for _, k := range task.Ready(more, done) {
			if !slices.Contains(before, k) {
				t.Fatal(l, more, done)
			}
		}
	}
}
