package recall_test

import (
	"fmt"
	"math/rand"
	"reflect"
	"slices"
	"testing"

	"bogie/api"
	"bogie/cases"
	"bogie/fleet"
	"bogie/life"
	"bogie/link"
	"bogie/meaning"
	"bogie/recall"
	"bogie/report"
	"bogie/sample"
	"bogie/search"
)

var setup = sample.Setup()

var forged = sample.Rule(`rule forged for axle: batch = "B7";`)

func concerned(t *testing.T, l []api.Report, r api.Rule, day int) []api.Concern {
	t.Helper()
	got, err := recall.Concerned(setup, l, r, day)
	if err != api.OK {
		t.Fatal(l, r, err)
	}
	return got
}

// shown returns concerns as a text.
func shown(l []api.Concern) string {
	s := ""
	for _, c := range l {
		s += fmt.Sprint(c.Part, " ", c.Sure, " ", c.Witness, "; ")
	}
	return s
}

func overhauls(part string, n int) string {
	s := "make 0 " + part + " axle;"
	for i := range n {
		s += fmt.Sprintf("? overhaul %d %s;", i+1, part)
	}
	return s
}

func TestValues(t *testing.T) { // P32.1
	for _, c := range []struct {
		texts string
		rule  string
		day   int
		want  string
	}{
		{`make 0 a1 axle; note 3 a1 batch "B6" | note 3 a1 batch "B7"`, `batch = "B7"`, 5, "a1 false [0 1]; "}, {`make 0 a1 axle; note 3 a1 batch "B6"`, `batch = "B7"`, 5, ""}, {`make 0 a1 axle; note 3 a1 batch "B7"`, `batch = "B7"`, 5, "a1 true [0 0]; "}, {`make 0 a1 axle; note 3 a1 batch "B7"`, `batch = "B7"`, 2, ""},
		{`make 0 b axle; ? make 0 a axle; ? note 1 b batch "B7"; make 0 m motor`, "true", 5, "a false [0]; b true [0 0]; "}, {"make 4 b axle | make 6 b axle", "true", 5, "b false [0]; "}, {"make 4 b axle | make 4 b motor", "true", 5, "b false [0]; "}, {"make 4 b motor | make 4 b axle", "true", 5, "b false [1]; "}, {"make 6 b axle", "true", 5, ""},
		{"make 0 b axle; make 0 v coach; fit 1 b v m; run 2 v 5 9 0 0 0 0", "over km 7", 5, "b false [0 0 0 0]; "}, {"make 0 b axle; make 0 v coach; fit 1 b v m; run 2 v 5 9 0 0 0 0", "over km 4", 5, "b true [0 0 0 0]; "}, {"make 0 b axle; make 0 v coach; fit 1 b v m; run 2 v 5 9 0 0 0 0", "over km 9", 5, ""},
		{"make 0 b axle; ? make 1 c axle; remove 2 b", "not true", 5, "b false []; "}, {overhauls("b", 12) + "make 0 c motor; ? make 0 d axle", "not true", 5, "b false []; "}, {overhauls("b", 31), "not true", 5, "b false []; "}, {overhauls("b", 11), "true", 5, "b true [0 0 0 0 0 0 0 0 0 0 0 0]; "},
		{"scrap 1 b; make 9 b motor | make 9 b axle; make 0 c axle", "true", 5, "b false []; c true [0]; "}, {"", "true", 5, ""},
	} {
		r := sample.Rule("rule q for axle: " + c.rule + ";")
		if got := shown(concerned(t, sample.Reports(c.texts), r, c.day)); got != c.want {
			t.Errorf("%.40s %s: %s, not %s", c.texts, c.rule, got, c.want)
		}
	}
	l := sample.Reports("make 0 a axle")
	for i, c := range []struct {
		x   api.Setup
		l   []api.Report
		r   api.Rule
		day int
	}{{api.Setup{Catalog: setup.Catalog}, l, forged, 5}, {setup, append(l, api.Report{}), forged, 5}, {setup, l, api.Rule{Name: "r", Kind: "axle"}, 5}, {setup, l, forged, -1}, {setup, l, forged, 40001}} {
		if got, err := recall.Concerned(c.x, c.l, c.r, c.day); len(got) != 0 || err != api.ErrArg {
			t.Error(i, got, err)
		}
	}
	for _, day := range []int{0, 40000} {
		if _, err := recall.Concerned(setup, nil, forged, day); err != api.OK {
			t.Error(day, err)
		}
	}
}

// each calls a function with random reports, a recall for axles or coaches, and a day.
func each(seed int64, check func(r *rand.Rand, l []api.Report, q api.Rule, day int)) {
	r := rand.New(rand.NewSource(seed))
	for range 100 {
		q := api.Rule{Name: "q", Kind: []string{"axle", "coach", "wheelset"}[r.Intn(3)], Cond: sample.RandomCond(r.Intn, 1)}
		check(r, sample.RandomReports(r.Intn, 10, 5), q, 2+r.Intn(12))
	}
}

// truths returns the truth values of a recall for a part in all histories of its component.
func truths(l []api.Report, q api.Rule, part string, day int) ([][]int, []api.Truth) {
	own := cases.About(l, part)
	histories, _ := search.All(setup.Catalog, own, 4096)
	var all []api.Truth
	for _, events := range cases.Events(own, histories) {
		s, _, _ := life.Run(setup, events, day)
		t := api.No
		if p, ok := fleet.Find(s, part); ok && p.Kind == q.Kind {
			t = meaning.Holds(s, q.Cond, part, day)
		}
		all = append(all, t)
	}
	return histories, all
}

func TestWitnesses(t *testing.T) { // P32.2, P32.3 and P32.6
	named, sure := 0, 0
	each(1, func(_ *rand.Rand, l []api.Report, q api.Rule, day int) {
		got := concerned(t, l, q, day)
		found := map[string]api.Concern{}
		for i, c := range got {
			found[c.Part] = c
			if i > 0 && got[i-1].Part >= c.Part {
				t.Fatal(got)
			}
		}
		for _, part := range cases.Made(l, func(kind string) bool { return kind == q.Kind }) {
			histories, all := truths(l, q, part, day)
			c, is := found[part]
			delete(found, part)
			if len(histories) == 0 {
				if !is || c.Sure || len(c.Witness) > 0 {
					t.Fatal(l, q, day, c)
				}
				continue
			}
			first := slices.IndexFunc(all, func(t api.Truth) bool { return t != api.No })
			if is != (first >= 0) || c.Sure != !slices.ContainsFunc(all, func(t api.Truth) bool { return t != api.Yes }) || is && !slices.Equal(c.Witness, histories[first]) {
				t.Fatal(l, q, day, c, all)
			}
			if is {
				named++
			}
			if c.Sure {
				sure++
			}
		}
		if len(found) > 0 {
			t.Fatal("not of the kind:", l, q, found)
		}
	})
	if named < 30 || sure < 10 {
		t.Error("too few cases:", named, sure)
	}
}

func TestEvidence(t *testing.T) { // P32.4
	each(2, func(r *rand.Rand, l []api.Report, q api.Rule, day int) {
		i := r.Intn(len(l))
		decided := slices.Clone(l)
		decided[i] = api.Report{Options: []api.Event{l[i].Options[r.Intn(len(l[i].Options))]}}
		if _, err := search.First(setup.Catalog, decided); err != api.OK {
			return
		}
		before, after := map[string]bool{}, map[string]bool{}
		for _, c := range concerned(t, l, q, day) {
			before[c.Part] = c.Sure
		}
		for _, c := range concerned(t, decided, q, day) {
			after[c.Part] = c.Sure
			if _, was := before[c.Part]; !was {
				t.Fatal(l, q, day, i, c)
			}
		}
		for part, sure := range before {
			if sure && !after[part] {
				t.Fatal(l, q, day, i, part)
			}
		}
	})
}

func TestOrAndAnd(t *testing.T) { // P32.5
	each(3, func(r *rand.Rand, l []api.Report, q api.Rule, day int) {
		other := q
		other.Cond = sample.RandomCond(r.Intn, 1)
		joined := func(op int) api.Rule {
			return api.Rule{Name: "j", Kind: q.Kind, Cond: api.Expr{Op: op, Kids: []api.Expr{q.Cond, other.Cond}}}
		}
		parts := func(q api.Rule) []string {
			var l2 []string
			for _, c := range concerned(t, l, q, day) {
				l2 = append(l2, c.Part)
			}
			return l2
		}
		a, b := parts(q), parts(other)
		both := append(slices.Clone(a), b...)
		slices.Sort(both)
		if got := parts(joined(api.ExprOr)); !slices.Equal(got, slices.Compact(both)) {
			t.Fatal(l, q, other, got)
		}
		for _, part := range parts(joined(api.ExprAnd)) {
			if !slices.Contains(a, part) || !slices.Contains(b, part) {
				t.Fatal(l, q, other, part)
			}
		}
	})
}

func TestAllOfAKind(t *testing.T) { // P32.6
	each(4, func(_ *rand.Rand, l []api.Report, q api.Rule, day int) {
		q.Cond = api.Expr{Op: api.ExprTrue}
		got := concerned(t, l, q, day)
		for _, part := range cases.Made(l, func(kind string) bool { return kind == q.Kind }) {
			histories, all := truths(l, q, part, day)
			want := len(histories) == 0 || slices.Contains(all, api.Yes)
			if want != slices.ContainsFunc(got, func(c api.Concern) bool { return c.Part == part }) {
				t.Fatal(l, q, day, part)
			}
		}
	})
}

func TestComponents(t *testing.T) { // P32.7
	each(5, func(_ *rand.Rand, l []api.Report, q api.Rule, day int) {
		var want []api.Concern
		for _, component := range link.Components(l) {
			want = append(want, concerned(t, cases.Picked(l, component), q, day)...)
		}
		slices.SortFunc(want, func(a, b api.Concern) int { return map[bool]int{true: -1, false: 1}[a.Part < b.Part] })
		if got := concerned(t, l, q, day); !reflect.DeepEqual(got, want) {
			t.Fatal(l, q, day, got, want)
		}
		for _, c := range want {
			if _, err := report.Picked(cases.About(l, c.Part), c.Witness); err != api.OK && c.Witness != nil {
				t.Fatal(c)
			}
		}
	})
}
