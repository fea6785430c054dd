package event_test

import (
	"fmt"
	"math"
	"math/rand"
	"slices"
	"strings"
	"testing"

	"bogie/api"
	"bogie/event"
)

func in(low, high int) api.Interval { return api.Interval{Low: low, High: high} }

func use(km, cycles, load api.Interval) api.Use {
	return api.Use{Km: km, Cycles: cycles, Load: load}
}

// examples has a valid event of each operation, in their order.
func examples() []api.Event {
	return []api.Event{
		{Op: api.OpMake, Day: 0, Part: "a1", Kind: "axle"},
		{Op: api.OpFit, Day: 1, Part: "b", Into: "a", Slot: "x"},
		{Op: api.OpRemove, Day: 2, Part: "a"},
		{Op: api.OpRun, Day: 9, Part: "v1", Use: use(in(10, 12), in(3, 3), in(0, 5))},
		{Op: api.OpOverhaul, Day: 4, Part: "a"},
		{Op: api.OpNote, Day: 9, Part: "a1", Key: "batch", Value: "7b"},
		{Op: api.OpScrap, Day: 40000, Part: "a"},
	}
}

// with returns an event that is changed by a function.
func with(e api.Event, change func(*api.Event)) api.Event {
	change(&e)
	return e
}

// refused checks that an event is not valid, in all functions.
func refused(t *testing.T, e api.Event) {
	t.Helper()
	s, err := event.Text(e)
	if event.Valid(e) || event.Names(e) != nil || s != "" || err != api.ErrArg {
		t.Error(e, s, err)
	}
}

func TestValid(t *testing.T) { // P9.1: I1
	l := examples()
	for _, e := range append(l,
		with(l[5], func(e *api.Event) { e.Value = strings.Repeat("\xff", 200) }),
		with(l[5], func(e *api.Event) { e.Value = "\n" }),
		with(l[3], func(e *api.Event) { e.Use = use(in(0, 1000000), in(1000000, 1000000), in(0, 0)) }),
		with(l[0], func(e *api.Event) { e.Part = strings.Repeat("a", 24) }),
		with(l[0], func(e *api.Event) { e.Kind = e.Part }),
	) {
		if !event.Valid(e) {
			t.Error(e)
		}
	}
	for _, change := range []func(e *api.Event){
		func(e *api.Event) { e.Op = 0 }, func(e *api.Event) { e.Op = 8 }, func(e *api.Event) { e.Op = -1 }, func(e *api.Event) { e.Day = -1 }, func(e *api.Event) { e.Day = 40001 },
		func(e *api.Event) { e.Part = "" }, func(e *api.Event) { e.Part = "a-b" }, func(e *api.Event) { e.Part = strings.Repeat("a", 25) },
	} {
		for _, e := range l {
			refused(t, with(e, change))
		}
	}
	for i, change := range []func(e *api.Event){
		func(e *api.Event) { e.Kind = "" }, func(e *api.Event) { e.Into = e.Part }, nil, func(e *api.Event) { e.Use.Load = in(3, 2) }, nil, func(e *api.Event) { e.Value = "" }, nil,
		func(e *api.Event) { e.Kind = "7" }, func(e *api.Event) { e.Into = "" }, nil, func(e *api.Event) { e.Use.Km = in(-1, 2) }, nil, func(e *api.Event) { e.Value = strings.Repeat("a", 201) }, nil,
		nil, func(e *api.Event) { e.Slot = "" }, nil, func(e *api.Event) { e.Use.Cycles = in(0, 1000001) }, nil, func(e *api.Event) { e.Key = "" }, nil,
		nil, func(e *api.Event) { e.Slot = " " }, nil, func(e *api.Event) { e.Use.Cycles = in(math.MinInt, math.MaxInt) }, nil, func(e *api.Event) { e.Key = "a b" }, nil,
	} {
		if change != nil {
			refused(t, with(l[i%7], change))
		}
	}
}

func random(r *rand.Rand) api.Event {
	e := examples()[r.Intn(7)]
	e.Day = r.Intn(40001)
	names := []string{"a", "b", "c_1", "Z", "make"}
	r.Shuffle(len(names), func(i, j int) { names[i], names[j] = names[j], names[i] })
	e.Part = names[0]
	switch e.Op {
	case api.OpMake:
		e.Kind = names[1]
	case api.OpFit:
		e.Into, e.Slot = names[1], names[r.Intn(5)]
	case api.OpRun:
		one := func() api.Interval {
			a, b := r.Intn(1000001), r.Intn(1000001)
			return in(min(a, b), max(a, b))
		}
		e.Use = use(one(), one(), one())
	case api.OpNote:
		b := make([]byte, 1+r.Intn(9))
		for i := range b {
			b[i] = "\\\"\nn \xff#\x00"[r.Intn(8)]
		}
		e.Key, e.Value = names[r.Intn(5)], string(b)
	}
	return e
}

func TestTexts(t *testing.T) { // P9.2, and P9.1: I3
	for i, want := range []string{"make 0 a1 axle", "fit 1 b a x", "remove 2 a", "run 9 v1 10 12 3 3 0 5", "overhaul 4 a", `note 9 a1 batch "7b"`, "scrap 40000 a"} {
		if s, err := event.Text(examples()[i]); s != want || err != api.OK {
			t.Error(s, err)
		}
	}
	r := rand.New(rand.NewSource(1))
	seen := map[string]api.Event{}
	for range 3000 {
		e := random(r)
		s, err := event.Text(e)
		got, err2 := event.Parse(s)
		if err != api.OK || err2 != api.OK || got != e {
			t.Fatal(e, s, got)
		}
		if old, ok := seen[s]; ok && old != e {
			t.Fatal(s)
		}
		seen[s] = e
		b := []byte(s) // what is accepted is the text of its result
		b[r.Intn(len(b))] = " 0129aZ\"\\\n"[r.Intn(10)]
		if got, err := event.Parse(string(b)); err == api.OK {
			if again, _ := event.Text(got); again != string(b) {
				t.Fatalf("%q", b)
			}
		} else if err != api.ErrSyntax || got != (api.Event{}) {
			t.Fatalf("%q: %v, %d", b, got, err)
		}
	}
	for _, s := range []string{"", "make", "make 0", "make 0 a", "make 00 a axle", "make 0 a axle ", " make 0 a axle", "make  0 a axle", "make 0 a axle x", "make 0 a axle#", "Make 0 a axle", "make 40001 a axle", "make -1 a axle", `make 0 "a" axle`, `make 0 a "axle"`, "make a 0 axle", "7 0 a axle", `"make" 0 a axle`,
		"fit 1 a1 a1 x", "fit 1 a b", "run 1 a 1 2 3 4 5", "run 1 a 1 2 3 4 5 6 7", "run 1 a 2 1 3 4 5 6", "run 1 a 1 2 3 4 5 1000001", "note 1 a b", `note 1 a b ""`, "note 1 a b c", `note 1 a b "c`, `note 1 a "b" "c"`, "scrap 1 a b", "remove 1 a b", "overhaul 1", "make 0 a axle\n", "note 1 a b \"" + strings.Repeat("a", 201) + "\"", strings.Repeat(" ", 30000)} {
		if e, err := event.Parse(s); e != (api.Event{}) || err != api.ErrSyntax {
			t.Error(s, e, err)
		}
	}
}

func TestNames(t *testing.T) { // P9.3, and P9.1: I2
	if l := event.Names(examples()[1]); !slices.Equal(l, []string{"a", "b"}) {
		t.Error(l)
	}
	if l := event.Names(with(examples()[1], func(e *api.Event) { e.Into = "c" })); !slices.Equal(l, []string{"b", "c"}) {
		t.Error(l)
	}
	r := rand.New(rand.NewSource(2))
	for range 500 {
		e := random(r)
		l := event.Names(e)
		if (len(l) == 2) != (e.Op == api.OpFit) || !slices.Contains(l, e.Part) || len(l) == 2 && (l[0] >= l[1] || !slices.Contains(l, e.Into)) || len(l) > 2 {
			t.Fatal(e, l)
		}
	}
}

func TestFields(t *testing.T) { // P9.4
	fields := []func(e *api.Event){
		func(e *api.Event) { e.Kind = "x" }, func(e *api.Event) { e.Into = "x" }, func(e *api.Event) { e.Slot = "x" }, func(e *api.Event) { e.Key = "x" }, func(e *api.Event) { e.Value = "x" },
		func(e *api.Event) { e.Use.Km.High = 1 }, func(e *api.Event) { e.Use.Cycles.High = 1 }, func(e *api.Event) { e.Use.Load.High = 1 },
	}
	own := [][]int{{0}, {1, 2}, nil, {5, 6, 7}, nil, {3, 4}, nil}
	for i, e := range examples() {
		for j, change := range fields {
			if !slices.Contains(own[i], j) {
				refused(t, with(e, change))
			}
		}
		for op := api.OpMake; op <= api.OpScrap; op++ { // only those without further fields are exchanged
			other := e
			other.Op = op
			same := op == e.Op || own[i] == nil && own[op-1] == nil
			if op == api.OpRun && own[i] == nil || same {
				continue // a run may be one without use
			}
			if event.Valid(other) {
				t.Error(other)
			}
		}
		refused(t, with(e, func(e *api.Event) { e.Day = -1 }))
		refused(t, with(e, func(e *api.Event) { e.Part = "" }))
	}
}

func TestDays(t *testing.T) { // P9.5
	for _, e := range examples() {
		for _, day := range []int{0, 1, 39999, 40000} {
			other := with(e, func(e *api.Event) { e.Day = day })
			if !event.Valid(other) || !slices.Equal(event.Names(e), event.Names(other)) {
				t.Error(other)
			}
		}
	}
}

func TestUses(t *testing.T) { // P9.6
	bounds := []int{-1, 0, 1, 999999, 1000000, 1000001}
	right := func(i api.Interval) bool { return 0 <= i.Low && i.Low <= i.High && i.High <= 1000000 }
	for _, low := range bounds {
		for _, high := range bounds {
			i := in(low, high)
			for j, u := range []api.Use{use(i, in(1, 2), in(0, 0)), use(in(1, 2), i, in(0, 0)), use(in(1, 2), in(0, 0), i)} {
				e := api.Event{Op: api.OpRun, Part: "v", Use: u}
				if event.Valid(e) != right(i) {
					t.Error(j, fmt.Sprint(i))
				}
			}
		}
	}
}
