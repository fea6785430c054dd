package proof_test

import (
	"fmt"
	"math"
	"math/rand"
	"reflect"
	"slices"
	"strings"
	"testing"

	"bogie/api"
	"bogie/history"
	"bogie/link"
	"bogie/proof"
	"bogie/report"
	"bogie/sample"
	"bogie/search"
)

var kinds = sample.Kinds()

var (
	no  = api.Step{Op: api.StepFalse}
	yes = api.Step{Op: api.StepHolds}
)

func split(report int, kids ...api.Step) api.Step {
	return api.Step{Op: api.StepSplit, Report: report, Kids: kids}
}

const example = "make 1 m1 motor; ? scrap 3 m1; note 4 m1 checked \"x\";"

func build(t *testing.T, l []api.Report) api.Step {
	t.Helper()
	p, err := proof.Build(kinds, l, api.MaxSteps)
	if err != api.OK {
		t.Fatal(l, err)
	}
	return p
}

func overhauls(n int) []api.Report {
	l := sample.Reports("make 0 a axle")
	for i := range n {
		l = append(l, sample.Report(fmt.Sprintf("? overhaul %d a", i+1)))
	}
	return l
}

func TestBuild(t *testing.T) { // P29.1: AC1
	l := sample.Reports(example)
	p := build(t, l)
	if !reflect.DeepEqual(p, split(1, no, yes)) || !slices.EqualFunc(proof.Histories(l, p), [][]int{{0, 1, 0}}, slices.Equal) {
		t.Error(p)
	}
	for texts, want := range map[string]string{
		"make 1 a axle": "h", "scrap 1 a": "f", "": "h", "? scrap 1 a": "0(fh)", "? make 2 a axle; ? scrap 4 a": "0(1(hh)1(fh))",
		"? scrap 4 a; ? make 2 a axle": "1(0(hh)0(fh))", "? overhaul 4 a; make 1 a axle | make 9 a axle; scrap 0 b": "f", "? overhaul 4 a; make 1 a axle | make 9 a axle; scrap 1 b": "1(ff)", "? make 2 a axle; ? make 2 a axle": "0(1(fh)1(hh))",
		"make 5 b axle | make 3 b axle; ? make 4 a axle": "0(1(hh)1(hh))", "make 1 a axle; ? scrap 40000 a": "1(hh)", "? make 40000 a axle; ? make 39999 b axle": "1(0(hh)0(hh))", "make 5 b axle | make 4 b axle; ? make 4 a axle": "0(1(hh)1(hh))", "make 5 b axle | make 6 b axle; ? make 4 a axle": "1(0(hh)0(hh))",
	} {
		if got, err := proof.Text(build(t, sample.Reports(texts))); got != want || err != api.OK {
			t.Error(texts, got, err)
		}
	}
	for _, c := range []struct {
		c    api.Catalog
		l    []api.Report
		most int
		want api.Errno
	}{
		{kinds, l, 3, api.OK}, {kinds, l, 2, api.ErrLimit}, {kinds, l, 1, api.ErrLimit}, {kinds, l, 0, api.ErrArg}, {kinds, l, 4097, api.ErrArg}, {kinds, l, math.MinInt, api.ErrArg}, {kinds, append(l, api.Report{}), 9, api.ErrArg}, {api.Catalog{Kinds: []api.Kind{{}}}, nil, 9, api.ErrArg},
		{kinds, overhauls(11), 4095, api.OK}, {kinds, overhauls(11), 4094, api.ErrLimit}, {kinds, overhauls(12), 4096, api.ErrLimit}, {kinds, append(overhauls(31), sample.Report("scrap 0 z")), 4096, api.ErrLimit}, {kinds, append(overhauls(30), sample.Report("scrap 0 z")), 4096, api.OK}, {kinds, append(overhauls(31), api.Report{}), 4096, api.ErrArg},
		{kinds, slices.Repeat(sample.Reports("scrap 0 z"), 5000), 1, api.OK}, {kinds, slices.Repeat(sample.Reports("scrap 0 z"), 5001), 1, api.ErrArg},
	} {
		p, err := proof.Build(c.c, c.l, c.most)
		if err != c.want || err != api.OK && !reflect.DeepEqual(p, api.Step{}) {
			t.Error(len(c.l), c.most, err)
		}
	}
}

// wide returns a split with many nodes.
func wide(n int) api.Step {
	p := split(0, yes, yes)
	for size := 3; size < n; size += 2 {
		p = split(0, yes, p)
	}
	return p
}

func TestSize(t *testing.T) { // P29.1: AC2
	loop := split(0, yes, yes)
	loop.Kids[1] = loop
	loop.Kids[1].Kids = loop.Kids
	for i, c := range []struct {
		p    api.Step
		want int
	}{{api.Step{}, 1}, {yes, 1}, {split(1, no, yes), 3}, {split(1, split(2, no, no), yes), 5}, {wide(4095), 4095}, {split(1, wide(4093), yes, yes), 4096}, {wide(4097), 4097}, {wide(9001), 4097}, {loop, 4097}, {api.Step{Kids: make([]api.Step, 1<<20)}, 4097}, {api.Step{Op: 9, Kids: make([]api.Step, 4095)}, 4096}} {
		if got := proof.Size(c.p); got != c.want {
			t.Error(i, got)
		}
	}
}

func TestHistories(t *testing.T) { // P29.1: AC3
	l := sample.Reports(example, "scrap 9 b | scrap 8 b")
	for _, c := range []struct {
		p    api.Step
		want [][]int
	}{
		{split(1, split(3, yes, no), split(3, yes, yes)), [][]int{{0, 0, 0, 0}, {0, 1, 0, 0}, {0, 1, 0, 1}}}, {split(3, split(1, yes, no), no), [][]int{{0, 0, 0, 0}}}, {no, nil}, {yes, nil}, {split(1, yes, no), nil}, {split(1, split(3, yes, no), yes), nil}, {split(0, split(3, yes, no), no), nil}, {split(4, yes, no), nil}, {split(1, split(1, yes, no), no), nil}, {split(1, split(3, yes, no, yes), no), nil}, {split(1, split(3, yes, no), no, no), nil}, {split(-1, yes, yes), nil}, {split(1, split(3, yes, no), api.Step{}), nil}, {split(1, split(3, yes, no), api.Step{Op: api.StepFalse, Report: 1}), nil},
	} {
		if got := proof.Histories(l, c.p); !slices.EqualFunc(got, c.want, slices.Equal) {
			t.Error(c, got)
		}
	}
	if got := proof.Histories(nil, yes); len(got) != 1 || len(got[0]) != 0 {
		t.Error(got)
	}
	if got := proof.Histories([]api.Report{{}}, yes); len(got) != 0 {
		t.Error(got)
	}
}

// each calls a function with random reports that have a certificate.
func each(t *testing.T, seed int64, doubts int, check func(r *rand.Rand, l []api.Report, p api.Step)) {
	t.Helper()
	r := rand.New(rand.NewSource(seed))
	for range 100 {
		l := sample.RandomReports(r.Intn, 10, doubts)
		check(r, l, build(t, l))
	}
}

func TestComplete(t *testing.T) { // P29.2 and P29.3
	found := 0
	each(t, 1, 6, func(_ *rand.Rand, l []api.Report, p api.Step) {
		got := proof.Histories(l, p)
		want, err := search.All(kinds, l, 4096)
		if err != api.OK && err != api.ErrDoubt {
			t.Fatal(err)
		}
		for _, h := range got {
			if !history.Is(kinds, l, h) {
				t.Fatal("no history:", l, h)
			}
		}
		slices.SortFunc(got, slices.Compare)
		if !slices.EqualFunc(got, want, slices.Equal) {
			t.Fatal(l, got, want)
		}
		found += len(got)
	})
	if found < 100 {
		t.Error("too few histories:", found)
	}
}

// random returns a valid certificate.
func random(r *rand.Rand, levels int) api.Step {
	switch {
	case levels > 0 && r.Intn(4) > 0:
		p := split(r.Intn(5000))
		for range 2 + r.Intn(4) {
			p.Kids = append(p.Kids, random(r, levels-1))
		}
		return p
	case r.Intn(2) == 0:
		return no
	}
	return yes
}

func TestTexts(t *testing.T) { // P29.4, and P29.1: AC4
	r := rand.New(rand.NewSource(2))
	seen := map[string]api.Step{}
	for range 1000 {
		p := random(r, 3)
		s, err := proof.Text(p)
		got, err2 := proof.Parse(s)
		if err != api.OK || err2 != api.OK || !reflect.DeepEqual(got, p) {
			t.Fatal(p, s, err, err2)
		}
		if old, ok := seen[s]; ok && !reflect.DeepEqual(old, p) {
			t.Fatal(s)
		}
		seen[s] = p
	}
	if s, err := proof.Text(split(1, wide(4093), yes, yes)); len(s) == 0 || err != api.OK {
		t.Error("4096 nodes", err)
	}
	if s, err := proof.Text(split(1, wide(4093), yes, yes, yes)); len(s) != 0 || err != api.ErrArg {
		t.Error("4097 nodes", err)
	}
	if p, err := proof.Parse("4999(0(fh)f7(hhhhh))"); !reflect.DeepEqual(p, split(4999, split(0, no, yes), no, split(7, yes, yes, yes, yes, yes))) || err != api.OK {
		t.Error(p, err)
	}
	deep := strings.Repeat("7(f", 2000) + "h" + strings.Repeat(")", 2000)
	for s, want := range map[string]api.Errno{deep: api.OK, strings.Repeat("7(f", 2100) + "h" + strings.Repeat(")", 2100): api.ErrSyntax, strings.Repeat("(", 20000): api.ErrSyntax, strings.Repeat("(", 20001): api.ErrLimit, strings.Repeat("0(", 10000): api.ErrSyntax} {
		if p, err := proof.Parse(s); err != want || err != api.OK && !reflect.DeepEqual(p, api.Step{}) {
			t.Errorf("%.20s: %d", s, err)
		}
	}
	for _, s := range []string{"", "x", "ff", "fh", "f ", " f", "0", "0(", "0(f", "0(fh", "0()", "0(f)", "0(ffffff)", "0(fh))", ")", "(fh)", "00(fh)", "01(fh)", "-1(fh)", "+1(fh)", "5000(fh)", "99999999999999999999(fh)", "0(fh)f", "0 (fh)", "0(f,h)", "0f(h)"} {
		if p, err := proof.Parse(s); err != api.ErrSyntax || !reflect.DeepEqual(p, api.Step{}) {
			t.Error(s, p, err)
		}
	}
	for i, p := range []api.Step{{}, {Op: 4}, {Op: api.StepHolds, Report: 1}, {Op: api.StepFalse, Kids: []api.Step{yes}}, split(0), split(0, yes), split(0, yes, yes, yes, yes, yes, yes), split(5000, yes, no), split(-1, yes, no), split(0, yes, api.Step{}), wide(4097)} {
		if s, err := proof.Text(p); s != "" || err != api.ErrArg {
			t.Error(i, s, err)
		}
	}
}

func TestLimits(t *testing.T) { // P29.5
	each(t, 3, 4, func(_ *rand.Rand, l []api.Report, p api.Step) {
		size := proof.Size(p)
		for _, most := range []int{1, size - 1, size, size + 1, 4000} {
			got, err := proof.Build(kinds, l, most)
			if most > 0 && (err == api.OK) != (most >= size) || err == api.OK && !reflect.DeepEqual(got, p) {
				t.Fatal(l, most, size, err)
			}
		}
	})
}

func TestNoDoubt(t *testing.T) { // P29.6
	each(t, 4, 0, func(_ *rand.Rand, l []api.Report, p api.Step) {
		if link.Doubts(l) == 0 && proof.Size(p) != 1 {
			t.Fatal(l, p)
		}
	})
}

func TestPaths(t *testing.T) { // P29.7, and P29.1: which report is split on
	each(t, 5, 5, func(_ *rand.Rand, l []api.Report, p api.Step) {
		choice := make([]int, len(l))
		for i, r := range l {
			if report.Choices(r) > 1 {
				choice[i] = -1
			}
		}
		var visit func(p api.Step, choice []int)
		visit = func(p api.Step, choice []int) {
			if history.False(kinds, l, choice) != (p.Op == api.StepFalse) {
				t.Fatal(l, choice, p)
			}
			for k, kid := range p.Kids {
				next := slices.Clone(choice)
				next[p.Report] = k
				visit(kid, next)
			}
		}
		visit(p, choice)
	})
}
