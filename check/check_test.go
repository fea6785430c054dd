package check_test

import (
	"fmt"
	"math/rand"
	"slices"
	"testing"

	"bogie/api"
	"bogie/cases"
	"bogie/check"
	"bogie/fault"
	"bogie/history"
	"bogie/release"
	"bogie/report"
	"bogie/sample"
	"bogie/search"
)

var setup = sample.Setup()

var (
	no  = api.Step{Op: api.StepFalse}
	yes = api.Step{Op: api.StepHolds}
)

func split(report int, kids ...api.Step) api.Step {
	return api.Step{Op: api.StepSplit, Report: report, Kids: kids}
}

// example is a coach with a wheelset that ran 90 to 100, or 101 to 110 kilometres.
func example() []api.Report {
	return slices.Clip(sample.Reports("make 0 c coach; make 0 w wheelset; fit 0 w c front; run 1 c 90 100 0 0 0 0 | run 1 c 101 110 0 0 0 0"))
}

func limit(km int) api.Book {
	return api.Book{Rules: sample.Rules(fmt.Sprintf("rule r for wheelset: limit km %d;", km))}
}

func TestValues(t *testing.T) { // P31.1
	l := example()
	faulty := api.Verdict{Kind: api.VerdictFault, History: []int{0, 0, 0, 1}, Faults: []api.Fault{{Kind: api.FaultRule, Part: "w", Name: "r"}}}
	free := func(p api.Step) api.Verdict { return api.Verdict{Kind: api.VerdictReleased, Proof: p} }
	both := split(3, yes, yes)
	change := func(v api.Verdict, f func(v *api.Verdict)) api.Verdict {
		f(&v)
		return v
	}
	loop := split(3, yes, yes)
	loop.Kids[1] = loop
	for i, c := range []struct {
		km   int
		v    api.Verdict
		want bool
	}{
		{100, faulty, true}, {110, faulty, false}, {100, free(both), false}, {110, free(both), true}, {110, free(split(3, yes, no)), false}, {110, free(split(3, yes)), false}, {110, free(split(3, yes, yes, yes)), false}, {110, free(yes), false}, {110, free(no), false}, {110, free(split(0, yes, yes)), false}, {110, free(split(4, yes, yes)), false}, {110, free(split(-1, yes, yes)), false}, {110, free(split(3, split(3, yes, yes), yes)), false},
		{110, free(split(3, yes, api.Step{Op: api.StepHolds, Report: 1})), false}, {110, free(split(3, yes, api.Step{Op: api.StepHolds, Kids: []api.Step{yes}})), false}, {110, free(api.Step{Op: 9, Report: 3, Kids: both.Kids}), false}, {110, free(loop), false}, {110, free(api.Step{}), false},
		{110, change(free(both), func(v *api.Verdict) { v.History = []int{0, 0, 0, 0} }), false}, {110, change(free(both), func(v *api.Verdict) { v.Faults = faulty.Faults }), false}, {110, change(free(both), func(v *api.Verdict) { v.History, v.Faults = []int{}, []api.Fault{} }), true},
		{100, change(faulty, func(v *api.Verdict) { v.Proof = both }), false}, {100, change(faulty, func(v *api.Verdict) { v.Proof.Report = 1 }), false}, {100, change(faulty, func(v *api.Verdict) { v.Proof.Kids = []api.Step{yes} }), false}, {100, change(faulty, func(v *api.Verdict) { v.History = []int{0, 0, 0, 0} }), false}, {100, change(faulty, func(v *api.Verdict) { v.History = nil }), false}, {100, change(faulty, func(v *api.Verdict) { v.Faults = nil }), false}, {100, change(faulty, func(v *api.Verdict) { v.Faults = append(v.Faults, api.Fault{Kind: 9}) }), false}, {110, change(faulty, func(v *api.Verdict) { v.History, v.Faults = []int{0, 0, 0, 0}, nil }), false},
		{100, api.Verdict{Kind: api.VerdictLarge}, false}, {100, api.Verdict{}, false}, {110, change(free(both), func(v *api.Verdict) { v.Kind = api.VerdictNone }), false},
	} {
		if check.Accept(setup, limit(c.km), l, "c", 5, c.v) != c.want {
			t.Error(i)
		}
	}
	zero := sample.Reports("make 0 c coach | make 1 c coach")
	if !check.Accept(setup, limit(1), zero, "c", 5, free(split(0, yes, yes))) {
		t.Error("a split on the first report")
	}
	good := free(both)
	if check.Accept(setup, limit(110), append(l, api.Report{}), "c", 5, good) || check.Accept(api.Setup{Catalog: setup.Catalog}, limit(110), l, "c", 5, good) || check.Accept(setup, limit(110), l, "x", 5, good) || check.Accept(api.Setup{Damage: setup.Damage, Catalog: api.Catalog{Kinds: []api.Kind{{}}}}, limit(110), nil, "c", 5, good) {
		t.Error("arguments")
	}
	unknown := api.Verdict{Kind: api.VerdictFault, Faults: []api.Fault{{Kind: api.FaultState, Part: "x"}}}
	if !check.Accept(setup, limit(110), l, "x", 5, unknown) {
		t.Error("an unknown vehicle")
	}
	gone := api.Verdict{Kind: api.VerdictFault, History: []int{0, 0, 0, 0}, Faults: []api.Fault{{Kind: api.FaultState, Part: "c"}}}
	if check.Accept(api.Setup{Catalog: setup.Catalog}, limit(110), l, "c", 5, gone) {
		t.Error("a setup that is not valid, and a fault")
	}
	impossible := append(l, sample.Report("remove 9 c"))
	for _, c := range []struct {
		p    api.Step
		want bool
	}{{split(3, no, no), true}, {no, false}, {split(3, no, yes), false}, {yes, false}} {
		if check.Accept(setup, limit(110), impossible, "c", 5, api.Verdict{Kind: api.VerdictNone, Proof: c.p}) != c.want || check.Accept(setup, limit(110), impossible, "c", 5, free(c.p)) {
			t.Error(c)
		}
	}
	late := append(sample.Reports("remove 0 c"), l...)
	if !check.Accept(setup, limit(110), late, "c", 5, api.Verdict{Kind: api.VerdictNone, Proof: no}) || check.Accept(setup, limit(110), late, "c", 5, api.Verdict{Kind: api.VerdictNone, Proof: no, History: []int{0}}) || check.Accept(setup, limit(110), late, "c", 5, api.Verdict{Kind: api.VerdictNone, Proof: no, Faults: unknown.Faults}) {
		t.Error("false at once")
	}
}

// whole returns a certificate that splits on all of some reports.
func whole(from, to int) api.Step {
	if from > to {
		return yes
	}
	return split(from, whole(from+1, to), whole(from+1, to))
}

func TestLarge(t *testing.T) { // P31.1: a certificate has at most 4096 nodes
	l := sample.Reports("make 0 c coach")
	for n := 1; n < 13; n++ {
		l = append(l, sample.Report(fmt.Sprintf("? overhaul %d c", n)))
		v := api.Verdict{Kind: api.VerdictReleased, Proof: whole(1, n)}
		if n > 9 && check.Accept(setup, api.Book{}, l, "c", 50, v) != (n < 12) {
			t.Error(n)
		}
	}
}

// each calls a function with random books and reports, and the verdict about v1.
func each(seed int64, check func(r *rand.Rand, b api.Book, l []api.Report, day int, v api.Verdict)) {
	r := rand.New(rand.NewSource(seed))
	for range 150 {
		b, l, day := sample.RandomBook(r.Intn), sample.RandomReports(r.Intn, 9, 4), 2+r.Intn(12)
		if r.Intn(2) == 0 {
			b = api.Book{}
		}
		check(r, b, l, day, release.Decide(setup, b, l, "v1", day))
	}
}

// wrong returns verdicts that are changed somewhere.
func wrong(r *rand.Rand, v api.Verdict) []api.Verdict {
	var l []api.Verdict
	for kind := api.VerdictReleased; kind <= api.VerdictLarge; kind++ {
		other := v
		other.Kind = kind
		l = append(l, other)
	}
	if len(v.History) > 0 {
		other := v
		other.History = slices.Clone(v.History)
		other.History[r.Intn(len(other.History))]++
		l = append(l, other)
	}
	return l
}

func TestSound(t *testing.T) { // P31.2 and P31.4
	each(1, func(r *rand.Rand, b api.Book, l []api.Report, day int, v api.Verdict) {
		own := cases.About(l, "v1")
		histories, _ := search.All(setup.Catalog, own, 4096)
		faulty := 0
		for _, events := range cases.Events(own, histories) {
			if len(fault.Of(setup, b, events, "v1", day)) > 0 {
				faulty++
			}
		}
		accepted := map[int]bool{}
		for _, other := range append(wrong(r, v), v) {
			if !check.Accept(setup, b, l, "v1", day, other) {
				continue
			}
			accepted[other.Kind] = true
			right := false
			switch other.Kind {
			case api.VerdictReleased:
				right = len(histories) > 0 && faulty == 0
			case api.VerdictNone:
				right = len(histories) == 0
			case api.VerdictFault:
				events, _ := report.Picked(own, other.History)
				right = history.Is(setup.Catalog, own, other.History) && slices.Equal(other.Faults, fault.Of(setup, b, events, "v1", day))
			}
			if !right {
				t.Fatal(l, b, day, other)
			}
		}
		if len(accepted) != 1 {
			t.Fatal("not one answer:", l, b, day, accepted)
		}
	})
}

func TestComplete(t *testing.T) { // P31.3 and P31.7
	kinds := map[int]int{}
	each(2, func(_ *rand.Rand, b api.Book, l []api.Report, day int, v api.Verdict) {
		kinds[v.Kind]++
		if check.Accept(setup, b, l, "v1", day, v) != (v.Kind != api.VerdictLarge) {
			t.Fatal(l, b, day, v)
		}
		more := append(sample.Reports("scrap 1 z; ? make 1 y axle"), l...)
		if check.Accept(setup, b, more, "v1", day, v) != (v.Kind != api.VerdictLarge) || check.Accept(setup, b, append(more, api.Report{}), "v1", day, v) {
			t.Fatal("other components:", l, b, day, v)
		}
	})
	if len(kinds) < 3 {
		t.Error("too few kinds of verdicts:", kinds)
	}
}

// anyOrder returns a certificate that splits on open reports in a random order.
func anyOrder(r *rand.Rand, l []api.Report, choice []int) api.Step {
	var open []int
	for i, k := range choice {
		if k < 0 {
			open = append(open, i)
		}
	}
	switch {
	case history.False(setup.Catalog, l, choice):
		return no
	case len(open) == 0:
		return yes
	}
	p := split(open[r.Intn(len(open))])
	for k := range report.Choices(l[p.Report]) {
		next := slices.Clone(choice)
		next[p.Report] = k
		p.Kids = append(p.Kids, anyOrder(r, l, next))
	}
	return p
}

// replaced returns certificates in each of which one node is replaced by a function, if it is another one then.
func replaced(p api.Step, replace func(p api.Step) api.Step) []api.Step {
	var l []api.Step
	if other := replace(p); other.Op != p.Op {
		l = append(l, other)
	}
	for k := range p.Kids {
		for _, kid := range replaced(p.Kids[k], replace) {
			other := split(p.Report, slices.Clone(p.Kids)...)
			other.Kids[k] = kid
			l = append(l, other)
		}
	}
	return l
}

func TestAnyOrder(t *testing.T) { // P31.5 and P31.6
	each(3, func(r *rand.Rand, b api.Book, l []api.Report, day int, v api.Verdict) {
		if v.Kind == api.VerdictFault {
			return
		}
		own := cases.About(l, "v1")
		choice := make([]int, len(own))
		for i, p := range own {
			if report.Choices(p) > 1 {
				choice[i] = -1
			}
		}
		v.Proof = anyOrder(r, own, choice)
		if !check.Accept(setup, b, l, "v1", day, v) {
			t.Fatal("another order:", l, v)
		}
		for _, p := range replaced(v.Proof, func(p api.Step) api.Step {
			if p.Op == api.StepHolds {
				return no
			}
			return p
		}) {
			v.Proof = p
			if check.Accept(setup, b, l, "v1", day, v) {
				t.Fatal("an end is gone:", l, v)
			}
		}
	})
	// A false node at which a report is open.
	l := append(sample.Reports("remove 0 c"), example()...)
	for kind, p := range map[int]api.Step{api.VerdictNone: yes, api.VerdictReleased: yes} {
		if check.Accept(setup, api.Book{}, l, "c", 5, api.Verdict{Kind: kind, Proof: p}) {
			t.Error(kind)
		}
	}
}
