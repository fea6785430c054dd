package release_test

import (
	"fmt"
	"math/rand"
	"reflect"
	"slices"
	"testing"

	"bogie/api"
	"bogie/cases"
	"bogie/fault"
	"bogie/link"
	"bogie/proof"
	"bogie/release"
	"bogie/report"
	"bogie/sample"
	"bogie/search"
)

var setup = sample.Setup()

const example = "make 0 v1 coach; run 1 v1 8 8 0 0 0 0; ? run 2 v1 5 5 0 0 0 0;"

var limit = api.Book{Rules: sample.Rules("rule r for coach: limit km 10;")}

func TestValues(t *testing.T) { // P30.1
	l := slices.Clip(sample.Reports(example))
	split := api.Step{Op: api.StepSplit, Report: 2, Kids: []api.Step{{Op: api.StepHolds}, {Op: api.StepHolds}}}
	for _, c := range []struct {
		l       []api.Report
		vehicle string
		day     int
		want    api.Verdict
	}{
		{l, "v1", 1, api.Verdict{Kind: api.VerdictReleased, Proof: split}},
		{l, "v1", 2, api.Verdict{Kind: api.VerdictFault, History: []int{0, 0, 0}, Faults: []api.Fault{{Kind: api.FaultRule, Part: "v1", Name: "r"}}}},
		{l, "v2", 1, api.Verdict{Kind: api.VerdictFault, Faults: []api.Fault{{Kind: api.FaultState, Part: "v2"}}}},
		{append(l, sample.Report("remove 3 v1")), "v1", 1, api.Verdict{Kind: api.VerdictNone, Proof: api.Step{Op: api.StepSplit, Report: 2, Kids: []api.Step{{Op: api.StepFalse}, {Op: api.StepFalse}}}}},
		{append(l, api.Report{}), "v1", 1, api.Verdict{Kind: api.VerdictLarge}}, {append(l, api.Report{}), "v2", 1, api.Verdict{Kind: api.VerdictLarge}},
		{append(l, doubts(31, 9)...), "v1", 1, api.Verdict{Kind: api.VerdictLarge}}, {append(l, doubts(12, 9)...), "v1", 1, api.Verdict{Kind: api.VerdictLarge}},
		// The first end with faults counts, in the order of the certificate: it splits on the run first.
		{sample.Reports("make 0 v1 coach; ? run 3 v1 1 1 0 0 0 0; run 2 v1 5 5 0 0 0 0 | run 2 v1 20 20 0 0 0 0"), "v1", 9, api.Verdict{Kind: api.VerdictFault, History: []int{0, 0, 1}, Faults: []api.Fault{{Kind: api.FaultRule, Part: "v1", Name: "r"}}}},
		{sample.Reports("make 0 v1 coach; ? run 3 v1 9 9 0 0 0 0; run 2 v1 20 20 0 0 0 0 | run 2 v1 5 5 0 0 0 0"), "v1", 9, api.Verdict{Kind: api.VerdictFault, History: []int{0, 0, 0}, Faults: []api.Fault{{Kind: api.FaultRule, Part: "v1", Name: "r"}}}},
		{sample.Reports("make 0 v1 coach; ? run 3 v1 9 9 0 0 0 0; run 2 v1 1 1 0 0 0 0 | run 2 v1 5 5 0 0 0 0"), "v1", 9, api.Verdict{Kind: api.VerdictFault, History: []int{0, 0, 1}, Faults: []api.Fault{{Kind: api.FaultRule, Part: "v1", Name: "r"}}}},
	} {
		if got := release.Decide(setup, limit, c.l, c.vehicle, c.day); !equal(got, c.want) {
			t.Error(c.vehicle, c.day, got)
		}
	}
	for _, x := range []api.Setup{{}, {Catalog: setup.Catalog}, {Damage: setup.Damage, Catalog: api.Catalog{Kinds: []api.Kind{{}}}}} {
		if got := release.Decide(x, limit, nil, "v1", 1); !equal(got, api.Verdict{Kind: api.VerdictLarge}) {
			t.Error(got)
		}
	}
}

// equal compares verdicts; a nil list is an empty one.
func equal(a, b api.Verdict) bool {
	return a.Kind == b.Kind && reflect.DeepEqual(a.Proof, b.Proof) && slices.Equal(a.History, b.History) && slices.Equal(a.Faults, b.Faults)
}

// doubts returns doubtful overhauls of the vehicle.
func doubts(n, day int) []api.Report {
	var l []api.Report
	for i := range n {
		l = append(l, sample.Report(fmt.Sprintf("? overhaul %d v1", day+i)))
	}
	return l
}

// each calls a function with random books and reports.
func each(seed int64, check func(r *rand.Rand, b api.Book, l []api.Report, day int)) {
	r := rand.New(rand.NewSource(seed))
	for range 150 {
		check(r, sample.RandomBook(r.Intn), sample.RandomReports(r.Intn, 9, 4), 2+r.Intn(12))
	}
}

func TestEveryHistory(t *testing.T) { // P30.2 and P30.3
	kinds := map[int]int{}
	each(1, func(_ *rand.Rand, b api.Book, l []api.Report, day int) {
		own := cases.About(l, "v1")
		histories, err := search.All(setup.Catalog, own, 4096)
		faulty := 0
		for _, events := range cases.Events(own, histories) {
			if len(fault.Of(setup, b, events, "v1", day)) > 0 {
				faulty++
			}
		}
		got := release.Decide(setup, b, l, "v1", day)
		kinds[got.Kind]++
		p, _ := proof.Build(setup.Catalog, own, api.MaxSteps)
		switch want := got.Kind; {
		case err == api.ErrDoubt && (want != api.VerdictNone || !reflect.DeepEqual(got.Proof, p)):
			t.Fatal("no history:", l, got)
		case err == api.OK && (want == api.VerdictReleased) != (faulty == 0):
			t.Fatal(l, b, day, got, faulty)
		case want == api.VerdictReleased && (!reflect.DeepEqual(got.Proof, p) || len(got.History)+len(got.Faults) > 0):
			t.Fatal(l, got)
		case want == api.VerdictFault:
			if !slices.ContainsFunc(histories, func(h []int) bool { return slices.Equal(h, got.History) }) {
				t.Fatal("no history:", l, got)
			}
			events, _ := report.Picked(own, got.History)
			if !slices.Equal(fault.Of(setup, b, events, "v1", day), got.Faults) || len(got.Faults) == 0 || !reflect.DeepEqual(got.Proof, api.Step{}) {
				t.Fatal(l, got)
			}
		}
	})
	if len(kinds) < 3 {
		t.Error("too few kinds of verdicts:", kinds)
	}
}

func TestOtherReports(t *testing.T) { // P30.4
	each(2, func(_ *rand.Rand, b api.Book, l []api.Report, day int) {
		more := append(sample.Reports("scrap 1 z; ? make 1 y axle"), l...)
		component := link.Of(more, "v1")
		if got := release.Decide(setup, b, more, "v1", day); !equal(got, release.Decide(setup, b, l, "v1", day)) || !equal(got, release.Decide(setup, b, cases.Picked(more, component), "v1", day)) {
			t.Fatal(l, b, day)
		}
	})
}

func released(b api.Book, l []api.Report, day int) bool {
	return release.Decide(setup, b, l, "v1", day).Kind == api.VerdictReleased
}

func TestStricterBooks(t *testing.T) { // P30.5 and P30.6
	each(3, func(r *rand.Rand, b api.Book, l []api.Report, day int) {
		more := sample.RandomBook(r.Intn)
		strict := api.Book{Rules: append(slices.Clone(b.Rules), more.Rules...), Recalls: append(slices.Clone(b.Recalls), more.Recalls...), Duties: append(slices.Clone(b.Duties), more.Duties...), Holds: append(slices.Clone(b.Holds), more.Holds...)}
		if released(strict, l, day) && !released(b, l, day) {
			t.Fatal(l, b, strict, day)
		}
		held := b
		held.Holds = append(held.Holds, api.Hold{Id: "h", Vehicle: "v1", Members: []int{3}})
		if released(held, l, day) {
			t.Fatal("held:", l, b, day)
		}
	})
}

func TestUnknownVehicles(t *testing.T) { // P30.7
	each(4, func(_ *rand.Rand, b api.Book, l []api.Report, day int) {
		got := release.Decide(setup, b, l, "x", day)
		if !equal(got, api.Verdict{Kind: api.VerdictFault, Faults: []api.Fault{{Kind: api.FaultState, Part: "x"}}}) {
			t.Fatal(l, got)
		}
	})
}
