package duty_test

import (
	"math/rand"
	"reflect"
	"slices"
	"testing"

	"bogie/api"
	"bogie/course"
	"bogie/duty"
	"bogie/event"
	"bogie/fleet"
	"bogie/sample"
)

var kinds = sample.Kinds()

func of(name string, after, within int) api.Duty {
	return api.Duty{Name: name, Kind: "coach", Key: "checked", After: after, Within: within}
}

const made = "make 0 v1 coach; make 0 v2 coach; overhaul 5 v1;"

func TestValues(t *testing.T) { // P26.1
	d := of("d", api.OpOverhaul, 3)
	for _, c := range []struct {
		texts   string
		day     int
		open    int // the last day, or -1
		overdue bool
	}{
		{"", 8, 8, false}, {"", 9, -1, true}, {"", 5, 8, false}, {"", 4, -1, false}, {"note 7 v1 checked \"x\"", 9, -1, false}, {"note 7 v1 checked \"x\"", 6, 8, false}, {"note 7 v1 checked \"x\"", 7, -1, false}, {"note 9 v1 checked \"x\"", 9, -1, true}, {"note 8 v1 checked \"x\"", 9, -1, false}, {"note 5 v1 checked \"x\"", 9, -1, false}, {"note 4 v1 checked \"x\"", 9, -1, true},
		{"note 7 v2 checked \"x\"", 9, -1, true}, {"note 7 v1 cleaned \"x\"", 9, -1, true}, {"overhaul 7 v1", 8, 8, false}, {"overhaul 7 v1; note 6 v1 checked \"x\"", 9, 10, false}, {"overhaul 7 v1; note 7 v1 checked \"x\"", 30, -1, false}, {"overhaul 10 v1; note 8 v1 checked \"x\"", 13, 13, false}, {"overhaul 10 v1; note 13 v1 checked \"x\"", 14, -1, true}, {"overhaul 6 v2", 8, 8, false}, {"scrap 6 v1", 8, -1, false}, {"scrap 6 v1", 9, -1, false}, {"scrap 9 v1", 8, 8, false}, {"remove 6 v1", 8, -1, false}, {"remove 9 v1", 8, 8, false},
	} {
		l := sample.Events(made, c.texts)
		var want []api.Due
		if c.open >= 0 {
			want = []api.Due{{Part: "v1", Rule: "d", Day: c.open}}
		}
		got := duty.Open([]api.Duty{d}, kinds, l, "v1", c.day)
		late := duty.Overdue([]api.Duty{d}, kinds, l, "v1", c.day)
		if !slices.Equal(got, want) || slices.Equal(late, []string{"d"}) != c.overdue || len(late) > 1 {
			t.Error(c, got, late)
		}
	}
	l := sample.Events(made, "make 0 a axle; note 6 v1 k \"v\"; run 6 v1 0 0 0 0 0 0")
	many := []api.Duty{of("z", api.OpOverhaul, 0), of("b", api.OpOverhaul, 40000), of("a", api.OpMake, 100), of("a", api.OpMake, 100), of("c", api.OpNote, 7), of("d", api.OpRun, 7), of("z", api.OpMake, 0), of("z", api.OpMake, 200), of("y", api.OpMake, 5), of("s", api.OpScrap, 1), of("f", api.OpFit, 1)}
	due := func(rule string, day int) api.Due { return api.Due{Part: "v1", Rule: rule, Day: day} }
	if got := duty.Open(many, kinds, l, "v1", 9); !slices.Equal(got, []api.Due{due("c", 13), due("d", 13), due("a", 100), due("z", 200), due("b", 40005)}) {
		t.Error(got)
	}
	if got := duty.Overdue(many, kinds, l, "v1", 9); !slices.Equal(got, []string{"y", "z"}) {
		t.Error(got)
	}
	for _, part := range []string{"a", "x", ""} {
		if len(duty.Open(many, kinds, l, part, 9)) != 0 || len(duty.Overdue(many, kinds, l, part, 900)) != 0 {
			t.Error(part)
		}
	}
	for i, change := range []func(d *api.Duty){
		func(d *api.Duty) { d.Name = "" }, func(d *api.Duty) { d.Key = "a b" }, func(d *api.Duty) { d.After = 0 }, func(d *api.Duty) { d.After = 8 }, func(d *api.Duty) { d.Within = -1 }, func(d *api.Duty) { d.Within = 40001 }, func(d *api.Duty) { d.Kind = "axle" },
	} {
		bad := of("d", api.OpOverhaul, 3)
		change(&bad)
		if len(duty.Open([]api.Duty{bad}, kinds, l, "v1", 6)) != 0 || len(duty.Overdue([]api.Duty{bad}, kinds, l, "v1", 20)) != 0 {
			t.Error(i)
		}
	}
	if len(duty.Overdue(many, api.Catalog{Kinds: []api.Kind{{}}}, l, "v1", 9)) != 0 || len(duty.Overdue(many, kinds, nil, "v1", 9)) != 0 || len(duty.Overdue(nil, kinds, l, "v1", 9)) != 0 {
		t.Error("no course, events or duties")
	}
}

// each calls a function with random duties, possible events and a day, for a vehicle that has duties.
func each(seed int64, check func(r *rand.Rand, duties []api.Duty, l []api.Event, day int)) {
	r := rand.New(rand.NewSource(seed))
	for range 400 {
		var l []api.Event
		s := api.State{}
		for _, e := range course.Sort(sample.RandomEvents(r.Intn, 25)) {
			if e.Op == api.OpNote {
				e.Key = []string{"checked", "batch"}[r.Intn(2)]
			}
			if next, err := fleet.Apply(kinds, s, e); err == api.OK {
				s = next
				l = append(l, e)
			}
		}
		var duties []api.Duty
		for range 1 + r.Intn(4) {
			d := of(string(rune('a'+r.Intn(4))), 1+r.Intn(7), r.Intn(8))
			if r.Intn(2) == 0 {
				d.Key = "batch"
			}
			duties = append(duties, d)
		}
		check(r, duties, l, 2+r.Intn(30))
	}
}

func TestEachAlone(t *testing.T) { // P26.2
	each(1, func(_ *rand.Rand, duties []api.Duty, l []api.Event, day int) {
		var open []api.Due
		var late []string
		for _, d := range duties {
			open = append(open, duty.Open([]api.Duty{d}, kinds, l, "v1", day)...)
			late = append(late, duty.Overdue([]api.Duty{d}, kinds, l, "v1", day)...)
		}
		slices.Sort(late)
		got := duty.Open(duties, kinds, l, "v1", day)
		if !slices.Equal(duty.Overdue(duties, kinds, l, "v1", day), slices.Compact(late)) {
			t.Fatal(duties, l, day)
		}
		for _, d := range append(open, got...) {
			if !slices.Contains(open, d) || !slices.Contains(got, d) {
				t.Fatal(duties, l, day, d)
			}
		}
		if !slices.IsSortedFunc(got, func(a, b api.Due) int { return 2*(a.Day-b.Day) + map[bool]int{true: -1}[a.Rule < b.Rule] }) {
			t.Fatal(got)
		}
	})
}

// has reports whether the vehicle has duties on a day.
func has(l []api.Event, day int) bool {
	s, _, _ := course.At(kinds, l, day)
	p, ok := fleet.Find(s, "v1")
	return ok && !p.Scrapped
}

func TestInTimeAndTooLate(t *testing.T) { // P26.3, P26.4 and P26.5
	each(2, func(r *rand.Rand, duties []api.Duty, l []api.Event, day int) {
		past := slices.DeleteFunc(slices.Clone(l), func(e api.Event) bool { return e.Day > day })
		one := duties[:1]
		open, late := duty.Open(one, kinds, past, "v1", day), duty.Overdue(one, kinds, past, "v1", day)
		if len(open)+len(late) > 1 {
			t.Fatal("open and overdue:", one, past, day)
		}
		if len(open) == 1 {
			note := api.Event{Op: api.OpNote, Day: day, Part: "v1", Key: one[0].Key, Value: "x"}
			if noted := append(slices.Clone(past), note); one[0].After != api.OpNote && (len(duty.Open(one, kinds, noted, "v1", day)) != 0 || len(duty.Overdue(one, kinds, noted, "v1", day)) != 0) {
				t.Fatal("noted in time:", one, past, day)
			}
			last := open[0].Day
			if last < day || len(duty.Overdue(one, kinds, past, "v1", last)) != 0 || len(duty.Overdue(one, kinds, past, "v1", last+1)) != 1 {
				t.Fatal("last day:", one, past, day, last)
			}
		}
		if later := day + r.Intn(5); len(late) == 1 && has(l, later) && len(duty.Overdue(one, kinds, l, "v1", later)) != 1 {
			t.Fatal("too late:", one, l, day, later)
		}
	})
}

func TestOthers(t *testing.T) { // P26.6
	each(3, func(_ *rand.Rand, duties []api.Duty, l []api.Event, day int) {
		own := slices.DeleteFunc(slices.Clone(l), func(e api.Event) bool { return !slices.Contains(event.Names(e), "v1") })
		only := slices.DeleteFunc(slices.Clone(own), func(e api.Event) bool { return e.Op == api.OpFit }) // what is fitted is not there now
		if !has(l, day) || !has(only, day) {
			return
		}
		if !slices.Equal(duty.Overdue(duties, kinds, l, "v1", day), duty.Overdue(duties, kinds, only, "v1", day)) || !slices.Equal(duty.Open(duties, kinds, l, "v1", day), duty.Open(duties, kinds, only, "v1", day)) {
			t.Fatal(duties, l, day)
		}
	})
}

func TestALongerTime(t *testing.T) { // P26.7, and P3
	each(4, func(r *rand.Rand, duties []api.Duty, l []api.Event, day int) {
		one := duties[:1]
		late := duty.Overdue(one, kinds, l, "v1", day)
		if again := duty.Overdue(one, kinds, l, "v1", day); !reflect.DeepEqual(late, again) {
			t.Fatal(one, l)
		}
		more := []api.Duty{one[0]}
		more[0].Within += r.Intn(9)
		if len(late) == 0 && len(duty.Overdue(more, kinds, l, "v1", day)) != 0 {
			t.Fatal(one, l, day)
		}
	})
}
