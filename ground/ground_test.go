package ground_test

import (
	"fmt"
	"math/rand"
	"slices"
	"strings"
	"testing"

	"bogie/api"
	"bogie/cases"
	"bogie/check"
	"bogie/fleet"
	"bogie/ground"
	"bogie/life"
	"bogie/meaning"
	"bogie/recall"
	"bogie/release"
	"bogie/report"
	"bogie/sample"
	"bogie/search"
)

var setup = sample.Setup()

const example = `make 1 a axle; make 1 b axle; make 1 w wheelset; make 1 c coach; make 1 d coach; fit 5 a w axle | fit 5 b w axle; fit 5 w c front; ? remove 6 a; note 1 a batch "A";`

var batch = sample.Rule(`rule q for axle: batch = "A";`)

func vehicles(t *testing.T, l []api.Report, r api.Rule, day int) []string {
	t.Helper()
	got, err := ground.Vehicles(setup, l, r, day)
	if err != api.OK {
		t.Fatal(l, r, err)
	}
	return got
}

func overhauls(n int) string {
	s := "make 0 v coach; make 0 x axle; fit 0 x v m; make 0 u coach; fit 9 x u m | make 0 t coach | remove 8 x;"
	for i := range n {
		s += fmt.Sprintf("? overhaul %d v;", i+1)
	}
	return s
}

func TestVehicles(t *testing.T) { // P34.1: AH1
	for _, c := range []struct {
		texts, rule string
		day         int
		want        string
	}{
		{example, `for axle: batch = "A"`, 5, "c"}, {example, `for axle: batch = "A"`, 4, ""}, {example, `for axle: batch = "B"`, 5, ""}, {example, "for coach: true", 5, "c d"}, {example, "for wheelset: at least 1 axle", 5, "c"}, {example + "make 1 e axle; fit 7 e d m", "for axle: true", 7, "c d"}, {example + "make 1 e axle; fit 7 e d m", "for axle: true", 6, "c"},
		{example + "remove 7 b", `for axle: batch = "A"`, 7, ""}, {example + "remove 7 b", `for axle: true`, 5, "c"}, {example + "remove 4 d", "for axle: not true", 5, ""}, {example + "remove 4 c", "for axle: not true", 5, "c"}, {"make 0 c coach; remove 1 c; make 0 d coach", "for coach: not true", 5, "c"}, {"make 0 c coach; make 0 d coach; remove 1 c; scrap 2 d", "for axle: true", 5, ""},
		{overhauls(12), "for axle: not true", 5, "t u v"}, {overhauls(31), "for axle: not true", 5, "t u v"}, {overhauls(12), "for motor: true", 5, ""}, {overhauls(9), "for axle: not true", 5, ""}, {overhauls(9), "for axle: true", 7, "v"}, {"make 0 a axle | make 0 a coach; ? scrap 9 a", "for coach: true", 5, "a"}, {"make 0 a axle | make 0 a coach", "for axle: true", 5, ""}, {"", "for coach: true", 5, ""},
	} {
		if got := strings.Join(vehicles(t, sample.Reports(c.texts), sample.Rule("rule q "+c.rule+";"), c.day), " "); got != c.want {
			t.Errorf("%.60s %s %d: %s, not %s", c.texts, c.rule, c.day, got, c.want)
		}
	}
	l := slices.Clip(sample.Reports(example))
	for i, c := range []struct {
		x   api.Setup
		l   []api.Report
		r   api.Rule
		day int
	}{{api.Setup{}, l, batch, 5}, {setup, append(l, api.Report{}), batch, 5}, {setup, l, api.Rule{Name: "r", Kind: "axle"}, 5}, {setup, l, batch, -1}, {setup, l, batch, 40001}} {
		if got, err := ground.Vehicles(c.x, c.l, c.r, c.day); len(got) != 0 || err != api.ErrArg {
			t.Error(i, got, err)
		}
		if got, err := ground.Past(c.x, c.l, c.r, "c", []int{6, c.day}); len(got) != 0 || err != api.ErrArg {
			t.Error(i, got, err)
		}
		if got, err := ground.Past(c.x, c.l, c.r, "c", nil); len(got) != 0 || (err == api.ErrArg) != (i < 3) {
			t.Error(i, got, err)
		}
		if got, err := ground.Past(c.x, c.l, c.r, "c", make([]int, 401)); len(got) != 0 || err != api.ErrLimit {
			t.Error(i, got, err)
		}
	}
}

func TestGroundedValues(t *testing.T) { // P34.1: AH2
	l := slices.Clip(sample.Reports(example))
	for i, c := range []struct {
		x    api.Setup
		b    api.Book
		l    []api.Report
		day  int
		want string
	}{
		{setup, api.Book{Recalls: []api.Rule{batch}}, l, 5, "c"}, {setup, api.Book{Recalls: []api.Rule{batch}}, l, 4, ""}, {setup, api.Book{}, l, 5, ""}, {setup, api.Book{}, l, 0, "c d"}, {setup, api.Book{Holds: []api.Hold{{Id: "h", Vehicle: "d", Members: []int{1}}}}, l, 5, "d"},
		{setup, api.Book{}, append(l, api.Report{}), 5, "c d"}, {setup, api.Book{}, append(l, sample.Report("? make 3 e coach")), 5, "e"}, {setup, api.Book{}, append(l, api.Report{Options: []api.Event{{Op: api.OpMake, Part: "odd!", Kind: "coach"}}}), 5, "c d odd!"}, {api.Setup{Catalog: setup.Catalog}, api.Book{}, l, 5, "c d"}, {api.Setup{}, api.Book{}, l, 5, ""}, {setup, api.Book{}, append(l, sample.Report("make 3 c bus | make 3 d axle")), 5, "c d"}, {setup, api.Book{}, nil, 5, ""},
	} {
		if got := strings.Join(ground.Grounded(c.x, c.b, c.l, c.day), " "); got != c.want {
			t.Error(i, got)
		}
	}
}

// each calls a function with random reports, a recall, and a day.
func each(seed int64, check func(r *rand.Rand, l []api.Report, q api.Rule, day int)) {
	r := rand.New(rand.NewSource(seed))
	for range 60 {
		q := api.Rule{Name: "q", Kind: []string{"axle", "coach", "wheelset"}[r.Intn(3)], Cond: sample.RandomCond(r.Intn, 1)}
		if r.Intn(3) == 0 {
			q.Cond = api.Expr{Op: api.ExprTrue}
		}
		check(r, sample.RandomReports(r.Intn, 14, 5), q, 2+r.Intn(14))
	}
}

func TestHistories(t *testing.T) { // P34.2
	found := 0
	each(1, func(_ *rand.Rand, l []api.Report, q api.Rule, day int) {
		got := vehicles(t, l, q, day)
		found += len(got)
		for _, v := range []string{"v1", "v2"} {
			own := cases.About(l, v)
			histories, err := search.All(setup.Catalog, own, 4096)
			want := err == api.ErrDoubt && len(cases.Made(own, func(kind string) bool { return kind == q.Kind })) > 0
			for _, events := range cases.Events(own, histories) {
				s, _, _ := life.Run(setup, events, day)
				if _, there := fleet.Find(s, v); !there {
					continue
				}
				for _, part := range append(fleet.Inside(s, v), v) {
					p, _ := fleet.Find(s, part)
					want = want || p.Kind == q.Kind && meaning.Holds(s, q.Cond, part, day) != api.No
				}
			}
			if slices.Contains(got, v) != want {
				t.Fatal(l, q, day, v, got)
			}
		}
	})
	if found < 20 {
		t.Error("too few cases:", found)
	}
}

func TestConcerns(t *testing.T) { // P34.3 and P34.4
	each(2, func(_ *rand.Rand, l []api.Report, q api.Rule, day int) {
		got := vehicles(t, l, q, day)
		concerns, _ := recall.Concerned(setup, l, q, day)
		if len(concerns) == 0 && len(got) > 0 {
			t.Fatal(l, q, day, got)
		}
		for _, c := range concerns {
			if c.Witness == nil {
				continue
			}
			events, _ := report.Picked(cases.About(l, c.Part), c.Witness)
			s, _, _ := life.Run(setup, events, day)
			root, _ := fleet.Find(s, fleet.Root(s, c.Part))
			if root.Kind == "coach" && !slices.Contains(got, root.Name) {
				t.Fatal(l, q, day, c, got)
			}
		}
		grounded := ground.Grounded(setup, api.Book{Recalls: []api.Rule{q}}, l, day)
		for _, v := range got {
			if !slices.Contains(grounded, v) {
				t.Fatal(l, q, day, v, grounded)
			}
		}
	})
}

func TestEvidence(t *testing.T) { // P34.5
	each(3, func(r *rand.Rand, l []api.Report, q api.Rule, day int) {
		i := r.Intn(len(l))
		fewer := slices.Clone(l)
		fewer[i] = api.Report{Options: l[i].Options[r.Intn(len(l[i].Options)):]}
		if _, err := search.First(setup.Catalog, fewer); err != api.OK {
			return
		}
		before := vehicles(t, l, q, day)
		for _, v := range vehicles(t, fewer, q, day) {
			if !slices.Contains(before, v) {
				t.Fatal(l, i, q, day, v)
			}
		}
	})
}

func TestReleasedOnes(t *testing.T) { // P34.6
	each(4, func(r *rand.Rand, l []api.Report, q api.Rule, day int) {
		b := sample.RandomBook(r.Intn)
		grounded := ground.Grounded(setup, b, l, day)
		for _, v := range []string{"v1", "v2"} {
			verdict := release.Decide(setup, b, l, v, day)
			if slices.Contains(grounded, v) == (verdict.Kind == api.VerdictReleased) || !slices.Contains(grounded, v) && !check.Accept(setup, b, l, v, day, verdict) {
				t.Fatal(l, b, day, v, grounded)
			}
		}
	})
}

func TestDays(t *testing.T) { // P34.7, and P34.1: AH3
	each(5, func(r *rand.Rand, l []api.Report, q api.Rule, _ int) {
		days := []int{3, 40000, 3}
		for range 8 {
			days = append(days, r.Intn(20))
		}
		for _, v := range []string{"v1", "w1", "x"} {
			got, err := ground.Past(setup, l, q, v, days)
			want := map[int]bool{}
			for _, day := range days {
				if slices.Contains(vehicles(t, l, q, day), v) {
					want[day] = true
				}
			}
			if err != api.OK || len(got) != len(want) || !slices.IsSorted(got) || slices.ContainsFunc(got, func(day int) bool { return !want[day] }) {
				t.Fatal(l, q, v, days, got, err)
			}
		}
	})
	if got, err := ground.Past(setup, nil, batch, "c", make([]int, 400)); len(got) != 0 || err != api.OK {
		t.Error(got, err)
	}
}
