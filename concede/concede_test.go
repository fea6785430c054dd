package concede_test

import (
	"math"
	"math/rand"
	"slices"
	"testing"

	"bogie/api"
	"bogie/catalog"
	"bogie/concede"
	"bogie/fleet"
	"bogie/sample"
)

var kinds = sample.Catalog("kind motor; kind diesel; vehicle coach (a: motor + diesel; b: motor + diesel); vehicle bus (a: motor + diesel);")

func sub(twin string, to int) api.Sub {
	return api.Sub{Kind: "coach", Slot: "a", Other: "diesel", Twin: twin, To: to}
}

func train() api.State {
	return api.State{Parts: []api.Part{{Name: "m1", Kind: "diesel", Into: "v1", Slot: "a"}, {Name: "m2", Kind: "diesel", Into: "v1", Slot: "b"}, {Name: "m3", Kind: "motor"}, {Name: "v1", Kind: "coach"}}}
}

func TestExempt(t *testing.T) { // P27.1: AA1
	l := []api.Concession{{Part: "p", Rule: "r", To: 5}, {Part: "p", Rule: "s", To: 9}, {Part: "q", Rule: "r", To: 7}, {Part: "p", Rule: "r", To: 3}}
	for _, c := range []struct {
		part, rule string
		day        int
		want       bool
	}{{"p", "r", 5, true}, {"p", "r", 6, false}, {"p", "r", math.MinInt, true}, {"p", "s", 9, true}, {"q", "s", 1, false}, {"q", "r", 7, true}, {"", "", 1, false}, {"x", "r", 1, false}, {"p", "r", math.MaxInt, false}} {
		if concede.Exempt(l, c.part, c.rule, c.day) != c.want {
			t.Error(c)
		}
	}
	if concede.Exempt(nil, "p", "r", 1) {
		t.Error("without papers")
	}
}

func TestPermitted(t *testing.T) { // P27.1: AA2
	change := func(f func(s *api.Sub)) []api.Sub {
		s := sub("", 9)
		f(&s)
		return []api.Sub{s}
	}
	for i, c := range []struct {
		subs []api.Sub
		part string
		day  int
		want bool
	}{
		{nil, "m1", 5, false}, {nil, "m3", 5, true}, {nil, "v1", 5, true}, {nil, "x", 5, false}, {nil, "", 5, false}, {[]api.Sub{sub("", 9)}, "m1", 9, true}, {[]api.Sub{sub("", 9)}, "m1", 10, false}, {[]api.Sub{sub("", 9)}, "m2", 9, false}, {[]api.Sub{sub("b", 9)}, "m1", 9, true}, {[]api.Sub{sub("b", 9)}, "m1", 10, false}, {[]api.Sub{sub("c", 9)}, "m1", 9, false}, {[]api.Sub{sub("a", 9)}, "m1", 9, true}, {[]api.Sub{sub("c", 9), sub("", 2), sub("b", 7)}, "m1", 7, true},
		{change(func(s *api.Sub) { s.Kind = "bus" }), "m1", 5, false}, {change(func(s *api.Sub) { s.Slot = "b" }), "m1", 5, false}, {change(func(s *api.Sub) { s.Other = "motor" }), "m1", 5, false}, {change(func(s *api.Sub) { s.Slot = "b" }), "m2", 5, true},
	} {
		if concede.Permitted(kinds, c.subs, train(), c.part, c.day) != c.want {
			t.Error(i)
		}
	}
	s := train()
	s.Parts[1].Into, s.Parts[1].Slot = "", ""
	if concede.Permitted(kinds, []api.Sub{sub("b", 9)}, s, "m1", 5) {
		t.Error("the twin was removed")
	}
	s = train()
	s.Parts[1].Kind = "motor"
	if concede.Permitted(kinds, []api.Sub{sub("b", 9)}, s, "m1", 5) || !concede.Permitted(kinds, nil, s, "m2", 5) {
		t.Error("the twin is of another kind")
	}
	s = train()
	s.Parts[0].Into = "nowhere"
	s.Parts[1].Into = "m2" // also a slot that its kind does not have
	if concede.Permitted(kinds, []api.Sub{sub("", 9)}, s, "m1", 5) || concede.Permitted(kinds, nil, s, "m2", 5) {
		t.Error("no host")
	}
	if anyHost := []api.Sub{{Slot: "a", Other: "diesel", To: 9}}; concede.Permitted(kinds, anyHost, s, "m1", 5) {
		t.Error("no host, and a substitution for no kind")
	}
	double := api.State{Parts: append(train().Parts, api.Part{Name: "v1", Kind: "bus"}, api.Part{Name: "m3", Kind: "diesel", Into: "v1", Slot: "b"}, api.Part{Name: "m1", Kind: "motor"})}
	double.Parts[1].Into = ""
	if !concede.Permitted(kinds, []api.Sub{sub("b", 9)}, double, "m1", 5) || concede.Permitted(kinds, nil, double, "m1", 5) {
		t.Error("the first part counts; any part can be the twin")
	}
}

// each calls a function with random states and substitutions.
func each(seed int64, check func(r *rand.Rand, s api.State, subs []api.Sub, part string, day int)) {
	r := rand.New(rand.NewSource(seed))
	for range 300 {
		s := api.State{}
		for _, e := range sample.Events("make 0 m1 diesel; make 0 m2 diesel; make 0 m3 motor; make 0 v1 coach; make 0 v2 bus") {
			s, _ = fleet.Apply(kinds, s, e)
		}
		for range 6 {
			e := api.Event{Op: api.OpFit, Part: "m" + string(rune('1'+r.Intn(3))), Into: "v" + string(rune('1'+r.Intn(2))), Slot: string(rune('a' + r.Intn(2)))}
			if next, err := fleet.Apply(kinds, s, e); err == api.OK {
				s = next
			}
		}
		var subs []api.Sub
		for range r.Intn(4) {
			subs = append(subs, api.Sub{Kind: []string{"coach", "bus"}[r.Intn(2)], Slot: string(rune('a' + r.Intn(2))), Other: "diesel", Twin: []string{"", "a", "b"}[r.Intn(3)], To: r.Intn(9)})
		}
		for _, p := range s.Parts {
			check(r, s, subs, p.Name, r.Intn(10))
		}
	}
}

func TestUntilADay(t *testing.T) { // P27.2, P27.3 and P27.4
	each(1, func(r *rand.Rand, s api.State, subs []api.Sub, part string, day int) {
		got := concede.Permitted(kinds, subs, s, part, day)
		if got && !concede.Permitted(kinds, subs, s, part, day-1-r.Intn(5)) {
			t.Fatal("an earlier day:", s, subs, part, day)
		}
		other := slices.Clone(subs)
		r.Shuffle(len(other), func(i, j int) { other[i], other[j] = other[j], other[i] })
		if concede.Permitted(kinds, other, s, part, day) != got {
			t.Fatal("another order:", s, subs, part, day)
		}
		if got && !concede.Permitted(kinds, append(other, sub("x", 5)), s, part, day) {
			t.Fatal("more papers:", s, subs, part, day)
		}
		p, _ := fleet.Find(s, part)
		host, _ := fleet.Find(s, p.Into)
		if concede.Permitted(kinds, nil, s, part, day) != (p.Into == "" || catalog.Normal(kinds, host.Kind, p.Slot, p.Kind)) {
			t.Fatal("without papers:", s, part)
		}
		l := []api.Concession{{Part: part, Rule: "r", To: day}, {Part: "x", Rule: "r", To: day}}
		if !concede.Exempt(l, part, "r", day) || !concede.Exempt(l, part, "r", day-1) || !concede.Exempt(append(l, l...), part, "r", day) || concede.Exempt(l[1:], part, "r", day) || concede.Exempt(l, part, "r", day+1) {
			t.Fatal("concessions:", l)
		}
	})
}

func TestPairs(t *testing.T) { // P27.5
	pair := []api.Sub{sub("b", 9), {Kind: "coach", Slot: "b", Other: "diesel", Twin: "a", To: 9}}
	if !concede.Permitted(kinds, pair, train(), "m1", 5) || !concede.Permitted(kinds, pair, train(), "m2", 5) {
		t.Error("both")
	}
	for i := range 2 {
		s := train()
		s.Parts[i].Into, s.Parts[i].Slot = "", ""
		if concede.Permitted(kinds, pair, s, s.Parts[1-i].Name, 5) {
			t.Error("none", i)
		}
	}
}

func TestNeighbours(t *testing.T) { // P27.6
	each(2, func(_ *rand.Rand, s api.State, subs []api.Sub, part string, day int) {
		p, _ := fleet.Find(s, part)
		near := api.State{}
		for _, q := range s.Parts {
			if q.Name == part || q.Name == p.Into || q.Into == p.Into && p.Into != "" {
				near.Parts = append(near.Parts, q)
			}
		}
		if concede.Permitted(kinds, subs, s, part, day) != concede.Permitted(kinds, subs, near, part, day) {
			t.Fatal(s, subs, part, day)
		}
	})
}
