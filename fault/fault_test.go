package fault_test

import (
	"fmt"
	"math/rand"
	"slices"
	"testing"

	"bogie/api"
	"bogie/concede"
	"bogie/course"
	"bogie/duty"
	"bogie/fault"
	"bogie/fleet"
	"bogie/life"
	"bogie/meaning"
	"bogie/sample"
)

var setup = sample.Setup()

const train = "make 0 c coach; make 0 w wheelset; fit 0 w c front; make 0 a axle; fit 0 a c m; make 0 d coach; run 1 c 90 110 0 0 0 0; "

// shown returns faults as a text.
func shown(l []api.Fault) string {
	s := ""
	for _, f := range l {
		s += fmt.Sprintf("%d/%s/%s ", f.Kind, f.Part, f.Name)
	}
	return s
}

func TestValues(t *testing.T) { // P28.1
	rules := sample.Rules("rule r for wheelset: limit km 100;", "rule s for coach: has ok;", "rule t for coach: true;", "rule u for coach: limit km 110;", "rule r for axle: over km 5;")
	sub := api.Sub{Kind: "coach", Slot: "m", Other: "axle", To: 5}
	free := api.Book{Subs: []api.Sub{sub}}
	book := func(change func(b *api.Book)) api.Book {
		b := free
		change(&b)
		return b
	}
	hold := func(id, vehicle string, members, back []int) api.Hold {
		return api.Hold{Id: id, Vehicle: vehicle, Members: members, Back: back}
	}
	inspect := api.Duty{Name: "i", Kind: "wheelset", Key: "seen", After: api.OpMake, Within: 3}
	for _, c := range []struct {
		book api.Book
		more string
		day  int
		want string
	}{
		{free, "", 5, ""}, {free, "", 6, "2/a/m "}, {api.Book{}, "", 5, "2/a/m "},
		{book(func(b *api.Book) { b.Rules = rules }), "", 5, "1/c/s 1/w/r "}, {book(func(b *api.Book) { b.Rules = rules }), "note 2 c ok \"x\"", 5, "1/w/r "}, {book(func(b *api.Book) { b.Rules = rules }), "overhaul 2 a", 5, "1/a/r 1/c/s 1/w/r "}, {book(func(b *api.Book) { b.Rules = []api.Rule{{Name: "x", Kind: "coach"}} }), "", 5, "1/c/x "},
		{book(func(b *api.Book) {
			b.Rules, b.Concessions = rules, []api.Concession{{Part: "w", Rule: "r", To: 5}, {Part: "c", Rule: "r", To: 9}}
		}), "", 5, "1/c/s "}, {book(func(b *api.Book) { b.Rules, b.Concessions = rules[:1], []api.Concession{{Part: "w", Rule: "r", To: 4}} }), "", 5, "1/w/r "},
		{book(func(b *api.Book) { b.Recalls = rules }), "", 5, "5/a/r 5/c/t 5/c/u 5/w/r "}, {book(func(b *api.Book) { b.Recalls = rules[:1] }), "run 3 c 20 20 0 0 0 0", 5, ""}, {book(func(b *api.Book) {
			b.Recalls, b.Concessions = rules[:1], []api.Concession{{Part: "w", Rule: "r", To: 9}}
		}), "", 5, "5/w/r "}, {book(func(b *api.Book) { b.Recalls = []api.Rule{{Name: "x", Kind: "coach"}} }), "", 5, ""},
		{book(func(b *api.Book) { b.Duties = []api.Duty{inspect} }), "", 3, ""}, {book(func(b *api.Book) { b.Duties = []api.Duty{inspect} }), "", 4, "3/w/i "}, {book(func(b *api.Book) { b.Duties = []api.Duty{inspect} }), "note 1 w seen \"x\"", 4, ""},
		{book(func(b *api.Book) {
			b.Holds = []api.Hold{hold("h", "c", []int{0, 1}, []int{0}), hold("i", "c", []int{0, 1}, []int{1, 0}), hold("j", "d", []int{0}, nil), hold("k", "c", nil, nil), hold("h", "c", []int{7}, nil), hold("g", "w", []int{7}, nil)}
		}), "", 5, "6/c/h "},
		{free, "scrap 9 z", 9, "4/c/ "}, {free, "scrap 9 z", 5, ""}, {free, "remove 2 w; remove 2 a; scrap 3 c", 5, "4/c/ "}, {free, "remove 2 w; remove 2 a; scrap 3 c", 2, ""}, {free, "", -1, "4/c/ "},
		{book(func(b *api.Book) {
			b.Subs, b.Rules, b.Recalls, b.Duties, b.Holds = nil, rules, rules[1:2], []api.Duty{inspect}, []api.Hold{hold("h", "c", []int{1}, nil)}
		}), "note 2 c ok \"x\"; overhaul 3 w", 5, "2/a/m 3/w/i 5/c/s 6/c/h "},
	} {
		if got := shown(fault.Of(setup, c.book, sample.Events(train, c.more), "c", c.day)); got != c.want {
			t.Errorf("%q %d: %s, not %s", c.more, c.day, got, c.want)
		}
	}
	for vehicle, want := range map[string]string{"w": "4/w/ ", "x": "4/x/ ", "": "4// ", "d": ""} {
		if got := shown(fault.Of(setup, api.Book{}, sample.Events(train), vehicle, 5)); got != want {
			t.Error(vehicle, got)
		}
	}
	if got := shown(fault.Of(api.Setup{Catalog: setup.Catalog}, free, sample.Events(train), "c", 5)); got != "4/c/ " {
		t.Error(got)
	}
}

// each calls a function with random books and events.
func each(seed int64, check func(r *rand.Rand, b api.Book, l []api.Event, day int)) {
	r := rand.New(rand.NewSource(seed))
	for range 250 {
		var l []api.Event
		s := api.State{}
		for _, e := range course.Sort(append(sample.Events("make 0 a axle; make 0 w wheelset; make 1 v1 coach; fit 1 a w axle; fit 1 w v1 front"), sample.RandomEvents(r.Intn, 30)...)) {
			if next, err := fleet.Apply(setup.Catalog, s, e); err == api.OK || r.Intn(500) == 0 {
				s = next
				l = append(l, e)
			}
		}
		check(r, sample.RandomBook(r.Intn), l, 1+r.Intn(35))
	}
}

// plain returns the faults in the words of the document.
func plain(b api.Book, l []api.Event, vehicle string, day int) []api.Fault {
	var found []api.Fault
	s, _, err := life.Run(setup, l, day)
	if p, ok := fleet.Find(s, vehicle); err != api.OK || !ok || p.Kind != "coach" || p.Scrapped {
		return []api.Fault{{Kind: api.FaultState, Part: vehicle}}
	}
	for _, part := range append(fleet.Inside(s, vehicle), vehicle) {
		p, _ := fleet.Find(s, part)
		for _, r := range b.Rules {
			if p.Kind == r.Kind && !concede.Exempt(b.Concessions, part, r.Name, day) && meaning.Holds(s, r.Cond, part, day) != api.Yes {
				found = append(found, api.Fault{Kind: api.FaultRule, Part: part, Name: r.Name})
			}
		}
		if !concede.Permitted(setup.Catalog, b.Subs, s, part, day) {
			found = append(found, api.Fault{Kind: api.FaultSub, Part: part, Name: p.Slot})
		}
		for _, name := range duty.Overdue(b.Duties, setup.Catalog, l, part, day) {
			found = append(found, api.Fault{Kind: api.FaultDuty, Part: part, Name: name})
		}
		for _, r := range b.Recalls {
			if p.Kind == r.Kind && meaning.Holds(s, r.Cond, part, day) != api.No {
				found = append(found, api.Fault{Kind: api.FaultRecall, Part: part, Name: r.Name})
			}
		}
	}
	for _, h := range b.Holds {
		if h.Vehicle == vehicle && len(h.Back) < len(h.Members) {
			found = append(found, api.Fault{Kind: api.FaultHold, Part: vehicle, Name: h.Id})
		}
	}
	return found
}

func TestFaults(t *testing.T) { // P28.2, P28.3 and P28.6
	kinds := map[int]int{}
	each(1, func(_ *rand.Rand, b api.Book, l []api.Event, day int) {
		got, want := fault.Of(setup, b, l, "v1", day), plain(b, l, "v1", day)
		s, _, _ := life.Run(setup, l, day)
		for i, f := range got {
			kinds[f.Kind]++
			if !slices.Contains(want, f) || i > 0 && fmt.Sprintf("%d %-30s%s", f.Kind, f.Part, f.Name) <= fmt.Sprintf("%d %-30s%s", got[i-1].Kind, got[i-1].Part, got[i-1].Name) {
				t.Fatal(b, l, day, got, want)
			}
			if f.Part != "v1" && !slices.Contains(fleet.Inside(s, "v1"), f.Part) || f.Kind == api.FaultState && len(got) > 1 {
				t.Fatal(b, l, day, f)
			}
		}
		for _, f := range want {
			if !slices.Contains(got, f) {
				t.Fatal(b, l, day, got, f)
			}
		}
	})
	if len(kinds) < 6 {
		t.Error("too few kinds of faults:", kinds)
	}
}

// fewer checks that all faults of a list are in another one.
func fewer(t *testing.T, l, all []api.Fault) {
	t.Helper()
	for _, f := range l {
		if !slices.Contains(all, f) {
			t.Fatal(f, l, all)
		}
	}
}

func TestLessToMeet(t *testing.T) { // P28.4
	each(2, func(r *rand.Rand, b api.Book, l []api.Event, day int) {
		all := fault.Of(setup, b, l, "v1", day)
		less := b
		less.Rules, less.Duties, less.Recalls, less.Holds = b.Rules[len(b.Rules)/2:], nil, b.Recalls[len(b.Recalls)/2:], nil
		fewer(t, fault.Of(setup, less, l, "v1", day), all)
		more := b
		more.Subs = append(slices.Clone(b.Subs), api.Sub{Kind: "coach", Slot: "m", Other: "axle", To: 40})
		more.Concessions = append(slices.Clone(b.Concessions), api.Concession{Part: "w", Rule: "r0", To: 40})
		fewer(t, fault.Of(setup, more, l, "v1", day), all)
	})
}

func TestTogether(t *testing.T) { // P28.5
	each(3, func(r *rand.Rand, b api.Book, l []api.Event, day int) {
		other := sample.RandomBook(r.Intn)
		other.Subs, other.Concessions = b.Subs, b.Concessions
		joined := b
		joined.Rules = append(slices.Clone(b.Rules), other.Rules...)
		joined.Duties = append(slices.Clone(b.Duties), other.Duties...)
		joined.Recalls = append(slices.Clone(b.Recalls), other.Recalls...)
		joined.Holds = append(slices.Clone(b.Holds), other.Holds...)
		both := append(fault.Of(setup, b, l, "v1", day), fault.Of(setup, other, l, "v1", day)...)
		got := fault.Of(setup, joined, l, "v1", day)
		fewer(t, got, both)
		fewer(t, both, got)
	})
}

func TestBetterKnowledge(t *testing.T) { // P28.7
	each(4, func(r *rand.Rand, b api.Book, l []api.Event, day int) {
		all := fault.Of(setup, b, l, "v1", day)
		exact := slices.Clone(l)
		for i := range exact {
			if km := &exact[i].Use.Km; exact[i].Op == api.OpRun {
				km.Low += r.Intn(km.High - km.Low + 1)
				km.High = km.Low + r.Intn(km.High-km.Low+1)
			}
		}
		if len(all) == 0 || all[0].Kind != api.FaultState {
			fewer(t, fault.Of(setup, b, exact, "v1", day), all)
		}
	})
}
