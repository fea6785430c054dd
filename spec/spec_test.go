package spec_test

import (
	"math/rand"
	"reflect"
	"slices"
	"testing"

	"bogie/api"
	"bogie/audit"
	"bogie/cases"
	"bogie/check"
	"bogie/record"
	"bogie/sample"
	"bogie/spec"
	"bogie/typing"
)

func world() api.World {
	w := sample.World(2)
	w.Subs = []api.Sub{{Kind: "coach", Slot: "m", Other: "axle", Twin: "", To: 40}}
	w.Duties = []api.Duty{{Name: "d", Kind: "coach", Key: "seen", After: api.OpMake, Within: 30}}
	w.Warranties = []api.Warranty{{Kind: "axle", Maker: "Forge", Days: 100, Km: 50, Percent: 80}}
	return w
}

func change(f func(w *api.World)) api.World {
	w := world()
	f(&w)
	return w
}

func TestValid(t *testing.T) { // P51.1: AY1
	for i, f := range []func(w *api.World){
		func(w *api.World) {}, func(w *api.World) { w.Keys = slices.Repeat(w.Keys[:1], 60) }, func(w *api.World) { w.Subs[0].Twin = "front" }, func(w *api.World) { w.Subs[0].To, w.Duties[0].Within = 0, 0 }, func(w *api.World) { w.Subs[0].To, w.Duties[0].Within = 40000, 40000 }, func(w *api.World) { w.Duties[0].After = 7 }, func(w *api.World) { w.Subs, w.Duties, w.Warranties = nil, nil, nil }, func(w *api.World) { w.Subs = slices.Repeat(w.Subs, 300) }, func(w *api.World) { w.Duties = slices.Repeat(w.Duties, 300) }, func(w *api.World) { w.Warranties = slices.Repeat(w.Warranties, 300) },
	} {
		if !spec.Valid(change(f)) {
			t.Error(i)
		}
	}
	var j sample.Journal
	l := []api.Record{j.Sign(0, sample.ReportOf("make 0 v1 coach"))}
	for i, f := range []func(w *api.World){
		func(w *api.World) { w.Setup.Damage = api.Formula{} }, func(w *api.World) { w.Setup.Catalog.Kinds = append(w.Setup.Catalog.Kinds, api.Kind{}) }, func(w *api.World) { w.Keys = nil }, func(w *api.World) { w.Keys = slices.Repeat(w.Keys[:1], 61) }, func(w *api.World) { w.Keys[1] = "x" }, func(w *api.World) { w.Subs[0].Kind = "" }, func(w *api.World) { w.Subs[0].Slot = "" }, func(w *api.World) { w.Subs[0].Other = "" }, func(w *api.World) { w.Subs[0].Twin = "a b" }, func(w *api.World) { w.Subs[0].To = -1 }, func(w *api.World) { w.Subs[0].To = 40001 }, func(w *api.World) { w.Subs = slices.Repeat(w.Subs, 301) },
		func(w *api.World) { w.Duties[0].Name = "" }, func(w *api.World) { w.Duties[0].Kind = "" }, func(w *api.World) { w.Duties[0].Key = "" }, func(w *api.World) { w.Duties[0].After = 0 }, func(w *api.World) { w.Duties[0].After = 8 }, func(w *api.World) { w.Duties[0].Within = -1 }, func(w *api.World) { w.Duties[0].Within = 40001 }, func(w *api.World) { w.Duties = slices.Repeat(w.Duties, 301) }, func(w *api.World) { w.Warranties[0].Percent = 101 }, func(w *api.World) { w.Warranties[0].Maker = "" }, func(w *api.World) { w.Warranties = slices.Repeat(w.Warranties, 301) },
	} {
		w := change(f)
		due, err := spec.Due(l, w)
		if spec.Valid(w) || len(spec.Known(l, w)) != 0 || len(spec.Reports(l, w)) != 0 || !reflect.DeepEqual(spec.Book(l, w, 5), api.Book{}) || !reflect.DeepEqual(spec.Verdict(l, w, "v1", 5), api.Verdict{Kind: api.VerdictLarge}) || len(spec.Grounded(l, w, 5)) != 0 || len(due) != 0 || err != api.ErrArg {
			t.Error(i)
		}
	}
}

func kind(l []api.Record, w api.World, vehicle string, day int) int {
	return spec.Verdict(l, w, vehicle, day).Kind
}

func TestExample(t *testing.T) { // P51.1 and P51.6
	w := sample.World(1)
	var j sample.Journal
	made := j.Sign(0, sample.ReportOf("make 0 v1 coach"))
	held := j.Sign(0, api.Record{Kind: api.RecHold, Name: "v1", Members: []int{0}})
	back := j.Sign(0, api.Record{Kind: api.RecBack, Target: record.Id(held)})
	gone := j.Sign(0, api.Record{Kind: api.RecCorrect, Target: record.Id(made)})
	l := []api.Record{made, held, back, gone}
	for n, want := range []int{api.VerdictFault, api.VerdictReleased, api.VerdictFault, api.VerdictReleased, api.VerdictFault} {
		grounded := spec.Grounded(l[:n], w, 5)
		if got := kind(l[:n], w, "v1", 5); got != want || (n == 2) != slices.Equal(grounded, []string{"v1"}) {
			t.Error(n, got, grounded)
		}
	}
	if v := spec.Verdict(l, w, "v1", 5); v.Faults[0].Kind != api.FaultState {
		t.Error(v)
	}
	if v := spec.Verdict(l[:2], w, "v1", 5); !slices.Equal(v.Faults, []api.Fault{{Kind: api.FaultHold, Part: "v1", Name: record.Id(held)}}) {
		t.Error(v)
	}
}

func TestKnown(t *testing.T) { // P51.1: AY2, and P51.3
	w := world()
	var j sample.Journal
	a := j.Sign(0, sample.ReportOf("make 0 v1 coach"))
	b := j.Sign(1, sample.ReportOf("make 0 v2 coach"))
	c := j.Sign(0, sample.ReportOf("scrap 9 v1"))
	stranger := sample.Signed(api.Record{Kind: api.RecReport, Author: 2, Number: 1, Clock: 1, Report: sample.Report("scrap 2 v2")})
	forged := c
	forged.Clock++
	bare := c
	bare.Seal = api.Seal{}
	for i, x := range []struct{ l, want []api.Record }{{[]api.Record{c, b, a}, []api.Record{a, b, c}}, {[]api.Record{c, b}, []api.Record{b}}, {[]api.Record{a, forged, stranger, bare, {}, a, b}, []api.Record{a, b}}, {[]api.Record{bare, a, c}, []api.Record{a, c}}, {nil, nil}} {
		if got := spec.Known(x.l, w); len(got) != len(x.want) || len(got) > 0 && !reflect.DeepEqual(got, x.want) {
			t.Error(i, got)
		}
	}
}

func TestReports(t *testing.T) { // P51.1: AY2, and P51.4
	w := world()
	var j sample.Journal
	a := j.Sign(0, sample.ReportOf("make 5 v1 coach"))
	b := j.Sign(1, sample.ReportOf("make 0 v2 coach"))
	fix := func(target api.Record, text string) api.Record {
		r := api.Record{Kind: api.RecCorrect, Target: record.Id(target)}
		if text != "" {
			r.Report = sample.Report(text)
		}
		return j.Sign(1, r)
	}
	first := fix(a, "make 3 v1 coach")
	second := fix(a, "? make 4 v1 coach")
	none := fix(b, "")
	other := fix(first, "make 9 v9 coach") // a correction is no report
	back := fix(b, "make 7 v2 coach")
	all := []api.Record{a, b, first, second, none, other, back}
	for n, want := range []string{"", "make 5 v1 coach", "make 5 v1 coach; make 0 v2 coach", "make 3 v1 coach; make 0 v2 coach", "? make 4 v1 coach; make 0 v2 coach", "? make 4 v1 coach", "? make 4 v1 coach", "? make 4 v1 coach; make 7 v2 coach"} {
		got := spec.Reports(all[:n], w)
		if !slices.EqualFunc(got, sample.Reports(want), func(x, y api.Report) bool { return reflect.DeepEqual(x, y) }) {
			t.Error(n, got)
		}
		if n > 0 && len(got) > 0 {
			got[0].Options[0].Part = "changed"
		}
	}
	if all[0].Report.Options[0].Part != "v1" {
		t.Error("shared memory")
	}
	// The correction counts as if it had been reported in time.
	for day := range 10 {
		var k sample.Journal
		intime := []api.Record{k.Sign(0, sample.ReportOf("make 3 v1 coach")), k.Sign(1, sample.ReportOf("make 0 v2 coach"))}
		if !reflect.DeepEqual(spec.Verdict(all[:3], w, "v1", day), spec.Verdict(intime, w, "v1", day)) {
			t.Error(day)
		}
	}
}

// names returns the names of rules.
func names(l []api.Rule) string {
	s := ""
	for _, r := range l {
		s += r.Name + " "
	}
	return s
}

func TestBook(t *testing.T) { // P51.1: AY2, and P51.8
	w := world()
	var j sample.Journal
	var l []api.Record
	add := func(author int, r api.Record) api.Record {
		r = j.Sign(author, r)
		l = append(l, r)
		return r
	}
	rule := func(from, to int, void bool, text string) {
		add(0, api.Record{Kind: api.RecRule, Amendment: api.Amendment{From: from, To: to, Void: void, Rule: sample.Rule(text)}})
	}
	recall := func(text string) string {
		return record.Id(add(1, api.Record{Kind: api.RecRecall, Text: text}))
	}
	rule(0, 99, false, "rule r for coach: limit km 5;")
	rule(10, 19, false, "rule r for coach: limit km 7;")
	rule(15, 19, true, "rule r for coach: true;")
	rule(0, 99, false, "rule s for bus: true;")
	rule(0, 99, false, "rule q for axle: over miles 5;")
	rule(0, 99, false, "rule a for axle: true;")
	first := recall("rule x for axle: true;")
	second := recall("rule b for coach: true;")
	recall("rule y for bus: true;")
	recall("rule  x for axle:true;")
	concession := api.Concession{Part: "p", Rule: "r", To: 5}
	add(0, api.Record{Kind: api.RecConcede, Concession: concession})
	held := add(0, api.Record{Kind: api.RecHold, Name: "v1", Members: []int{0, 1}})
	add(1, api.Record{Kind: api.RecBack, Target: record.Id(held)})
	for day, want := range map[int]string{5: "a r ", 12: "a r ", 15: "a ", 20: "a r ", 100: "", -1: ""} {
		b := spec.Book(l, w, day)
		if names(b.Rules) != want || names(b.Recalls) != "x b x " {
			t.Error(day, names(b.Rules), names(b.Recalls))
		}
		if day == 12 && (b.Rules[1].Cond.N != 7) {
			t.Error(b.Rules)
		}
		if !reflect.DeepEqual(b.Subs, w.Subs) || !reflect.DeepEqual(b.Duties, w.Duties) || !slices.Equal(b.Concessions, []api.Concession{concession}) || !reflect.DeepEqual(b.Holds, []api.Hold{{Id: record.Id(held), Vehicle: "v1", Members: []int{0, 1}, Back: []int{1}}}) {
			t.Error(day, b)
		}
		for _, r := range append(b.Rules, b.Recalls...) {
			if typing.Check(w.Setup.Catalog, r) != api.OK {
				t.Error(r)
			}
		}
	}
	add(0, api.Record{Kind: api.RecClear, Target: first})
	add(0, api.Record{Kind: api.RecClear, Target: record.Id(held)})
	if b := spec.Book(l, w, 5); names(b.Recalls) != "b x " || len(b.Holds) != 1 {
		t.Error(names(b.Recalls))
	}
	add(1, api.Record{Kind: api.RecClear, Target: second})
	b := spec.Book(l, w, 5)
	if names(b.Recalls) != "x " {
		t.Error(names(b.Recalls))
	}
	b.Subs[0].To, b.Duties[0].Within = 0, 0
	if w.Subs[0].To != 40 || w.Duties[0].Within != 30 {
		t.Error("shared memory")
	}
}

// random returns signed records of two members about the parts of the sample, and a world.
func random(r *rand.Rand) ([]api.Record, api.World) {
	var j sample.Journal
	var l []api.Record
	add := func(rec api.Record) { l = append(l, j.Sign(r.Intn(2), rec)) }
	for _, rep := range sample.RandomReports(r.Intn, 5, 3) {
		add(api.Record{Kind: api.RecReport, Report: rep})
	}
	for range 4 + r.Intn(4) {
		target := record.Id(l[r.Intn(len(l))])
		switch r.Intn(8) {
		case 0:
			add(api.Record{Kind: api.RecCorrect, Target: target, Report: sample.Report("make 1 v1 coach")})
		case 1:
			add(api.Record{Kind: api.RecRule, Amendment: api.Amendment{To: 50, Rule: sample.Rule("rule r for coach: limit km 40;")}})
		case 2:
			add(api.Record{Kind: api.RecHold, Name: []string{"v1", "v2"}[r.Intn(2)], Members: []int{r.Intn(2)}})
		case 3:
			add(api.Record{Kind: api.RecBack, Target: target})
		case 4:
			add(api.Record{Kind: api.RecRecall, Text: "rule q for axle: batch = \"A\";"})
		case 5:
			add(api.Record{Kind: api.RecClear, Target: target})
		case 6:
			add(api.Record{Kind: api.RecCost, Cost: api.Cost{Part: "a1", Owner: "Rail", Day: 9, Amount: r.Intn(500)}})
		default:
			add(api.Record{Kind: api.RecPay, Transfer: api.Transfer{From: "Forge", To: "Rail", Amount: 1 + r.Intn(50)}})
		}
	}
	return l, world()
}

func TestAnyOrder(t *testing.T) { // P51.2 and P51.3
	r := rand.New(rand.NewSource(1))
	for range 12 {
		l, w := random(r)
		other := append(slices.Clone(l), l...)
		r.Shuffle(len(other), func(i, j int) { other[i], other[j] = other[j], other[i] })
		forged := l[r.Intn(len(l))]
		forged.Clock++
		other = append(other, forged, api.Record{})
		if !reflect.DeepEqual(spec.Known(l, w), spec.Known(other, w)) || !reflect.DeepEqual(spec.Reports(l, w), spec.Reports(other, w)) || !reflect.DeepEqual(spec.Book(l, w, 9), spec.Book(other, w, 9)) || !reflect.DeepEqual(spec.Verdict(l, w, "v1", 9), spec.Verdict(other, w, "v1", 9)) || !slices.Equal(spec.Grounded(l, w, 9), spec.Grounded(other, w, 9)) {
			t.Fatal(l)
		}
		a, err := spec.Due(l, w)
		b, err2 := spec.Due(other, w)
		if !slices.Equal(a, b) || err != err2 {
			t.Fatal(a, b)
		}
	}
}

func TestCertificates(t *testing.T) { // P51.5, P51.6 and P51.7
	r := rand.New(rand.NewSource(2))
	kinds := map[int]int{}
	for range 25 {
		l, w := random(r)
		book, reports := spec.Book(l, w, 9), spec.Reports(l, w)
		grounded := spec.Grounded(l, w, 9)
		for _, v := range []string{"v1", "v2"} {
			verdict := spec.Verdict(l, w, v, 9)
			kinds[verdict.Kind]++
			made := slices.Contains(cases.Made(reports, func(kind string) bool { return kind == "coach" }), v)
			if !check.Accept(w.Setup, book, reports, v, 9, verdict) || slices.Contains(grounded, v) != (made && verdict.Kind != api.VerdictReleased) {
				t.Fatal(v, verdict, grounded)
			}
			for _, h := range book.Holds {
				if h.Vehicle == v && len(h.Back) == 0 && verdict.Kind == api.VerdictReleased {
					t.Fatal("held:", h)
				}
			}
		}
		var costs []api.Cost
		var paid []api.Transfer
		for _, rec := range spec.Known(l, w) {
			switch rec.Kind {
			case api.RecCost:
				costs = append(costs, rec.Cost)
			case api.RecPay:
				paid = append(paid, rec.Transfer)
			}
		}
		due, err := spec.Due(l, w)
		if err != api.OK || !audit.Accept(w.Setup, w.Warranties, reports, costs, paid, due) {
			t.Fatal(costs, paid, due, err)
		}
	}
	if kinds[api.VerdictReleased] < 3 || kinds[api.VerdictFault] < 3 {
		t.Error("too few kinds of verdicts:", kinds)
	}
}

func TestDue(t *testing.T) { // P51.1: AY4
	w := world()
	var j sample.Journal
	l := []api.Record{j.Sign(0, sample.ReportOf("make 0 a axle")), j.Sign(0, api.Record{Kind: api.RecCost, Cost: api.Cost{Part: "a", Owner: "Rail", Day: 60, Amount: 1001}}), j.Sign(1, api.Record{Kind: api.RecPay, Transfer: api.Transfer{From: "Forge", To: "Rail", Amount: 1}})}
	if due, err := spec.Due(l, w); !slices.Equal(due, []api.Transfer{{From: "Forge", To: "Rail", Amount: 800}}) || err != api.OK {
		t.Error(due, err)
	}
	most := api.Record{Kind: api.RecCost, Cost: api.Cost{Part: "a", Owner: "Rail", Day: 60, Amount: api.MaxAmount}}
	l = append(l, j.Sign(0, most), j.Sign(0, most))
	if due, err := spec.Due(l, w); len(due) != 0 || err != api.ErrRange {
		t.Error(due, err)
	}
}
