package reasons_test

import (
	"fmt"
	"math/rand"
	"slices"
	"testing"

	"bogie/api"
	"bogie/cases"
	"bogie/fault"
	"bogie/reasons"
	"bogie/report"
	"bogie/sample"
	"bogie/search"
)

var setup = sample.Setup()

var limit = api.Book{Rules: sample.Rules("rule r for coach: limit km 10;")}

func TestValues(t *testing.T) { // P33.1
	runs := slices.Clip(sample.Reports("make 0 v1 coach; ? run 1 v1 20 20 0 0 0 0; ? run 2 v1 20 20 0 0 0 0"))
	small := sample.Reports("make 0 v1 coach; ? run 1 v1 8 8 0 0 0 0; run 2 v1 8 8 0 0 0 0 | run 2 v1 1 1 0 0 0 0; run 3 v1 1 1 0 0 0 0 | run 4 v1 1 1 0 0 0 0")
	for _, c := range []struct {
		l      []api.Report
		choice []int
		want   []int
		err    api.Errno
	}{
		{runs, []int{0, 0, 0}, []int{2}, 0}, {runs, []int{0, 0, 1}, []int{1}, 0}, {runs, []int{0, 1, 0}, []int{2}, 0}, {runs, []int{0, 1, 1}, nil, api.ErrNone}, {runs, []int{0, 1}, nil, api.ErrArg}, {runs, []int{0, 0, 2}, nil, api.ErrArg}, {runs, nil, nil, api.ErrArg}, {runs, []int{0, -1, 0}, nil, api.ErrArg},
		{small, []int{0, 0, 0, 0}, []int{1, 2}, 0}, {small, []int{0, 0, 0, 1}, []int{1, 2}, 0}, {small, []int{0, 0, 1, 1}, nil, api.ErrNone}, {small, []int{0, 1, 0, 0}, nil, api.ErrNone},
		{append(runs, sample.Report("run 3 v1 20 20 0 0 0 0")), []int{0, 0, 0, 0}, nil, 0}, {append(runs, sample.Report("scrap 1 z")), []int{0, 0, 0}, []int{2}, 0}, {append(runs, api.Report{}), []int{0, 0, 0}, nil, api.ErrArg}, {append(runs, sample.Report("remove 1 v1")), []int{0, 0, 0, 0}, nil, api.ErrArg},
	} {
		got, err := reasons.Of(setup, limit, c.l, "v1", 9, c.choice)
		if !slices.Equal(got, c.want) || err != c.err {
			t.Error(c.choice, got, err)
		}
	}
	if got, err := reasons.Of(api.Setup{}, limit, runs, "v1", 9, []int{0, 0, 0}); len(got) != 0 || err != api.ErrArg {
		t.Error(got, err)
	}
	if got, err := reasons.Of(setup, limit, runs, "x", 9, nil); len(got) != 0 || err != api.OK {
		t.Error(got, err) // an unknown vehicle has a fault in every history
	}
	for n, want := range map[int]api.Errno{11: api.ErrNone, 12: api.ErrLimit, 31: api.ErrLimit} {
		l := sample.Reports("make 0 v1 coach")
		for i := range n {
			l = append(l, sample.Report(fmt.Sprintf("? overhaul %d v1", i+1)))
		}
		if got, err := reasons.Of(setup, limit, l, "v1", 9, make([]int, n+1)); len(got) != 0 || err != want {
			t.Error(n, got, err)
		}
	}
}

// each calls a function with random reports, a history of those of v1, all of these, and whether they have faults.
func each(seed int64, check func(r *rand.Rand, b api.Book, l []api.Report, day int, choice []int, histories [][]int, faulty []bool)) {
	r := rand.New(rand.NewSource(seed))
	for range 150 {
		b, l, day := sample.RandomBook(r.Intn), sample.RandomReports(r.Intn, 10, 5), 2+r.Intn(12)
		own := cases.About(l, "v1")
		histories, err := search.All(setup.Catalog, own, 4095)
		if err != api.OK {
			continue
		}
		var faulty []bool
		for _, events := range cases.Events(own, histories) {
			faulty = append(faulty, len(fault.Of(setup, b, events, "v1", day)) > 0)
		}
		check(r, b, l, day, histories[r.Intn(len(histories))], histories, faulty)
	}
}

// enough reports whether some reports are enough for a fault of a history.
func enough(reports, choice []int, histories [][]int, faulty []bool) bool {
	for n, h := range histories {
		same := !slices.ContainsFunc(reports, func(i int) bool { return h[i] != choice[i] })
		if same && !faulty[n] {
			return false
		}
	}
	return true
}

func TestEnough(t *testing.T) { // P33.2, P33.3, P33.4 and P33.5
	some := 0
	each(1, func(r *rand.Rand, b api.Book, l []api.Report, day int, choice []int, histories [][]int, faulty []bool) {
		got, err := reasons.Of(setup, b, l, "v1", day, choice)
		at := slices.IndexFunc(histories, func(h []int) bool { return slices.Equal(h, choice) })
		if (err == api.OK) != faulty[at] || err != api.OK && (err != api.ErrNone || len(got) != 0) {
			t.Fatal(l, b, day, choice, got, err)
		}
		if err != api.OK {
			return
		}
		own := cases.About(l, "v1")
		if !slices.IsSorted(got) || !enough(got, choice, histories, faulty) || slices.ContainsFunc(got, func(i int) bool { return report.Choices(own[i]) < 2 }) {
			t.Fatal("not enough:", l, b, day, choice, got)
		}
		for i := range got {
			if enough(slices.Delete(slices.Clone(got), i, i+1), choice, histories, faulty) {
				t.Fatal("one to spare:", l, b, day, choice, got)
			}
		}
		if (len(got) == 0) != !slices.Contains(faulty, false) {
			t.Fatal("in any case:", l, b, day, choice, got)
		}
		if len(got) > 0 {
			some++
		}
		for _, h := range histories {
			if !slices.ContainsFunc(got, func(i int) bool { return h[i] != choice[i] }) {
				if _, err := reasons.Of(setup, b, l, "v1", day, h); err != api.OK {
					t.Fatal("the same reasons:", l, b, day, h)
				}
			}
		}
	})
	if some < 5 {
		t.Error("too few cases:", some)
	}
}

func TestOtherReports(t *testing.T) { // P33.6
	each(2, func(_ *rand.Rand, b api.Book, l []api.Report, day int, choice []int, _ [][]int, _ []bool) {
		got, err := reasons.Of(setup, b, l, "v1", day, choice)
		more, err2 := reasons.Of(setup, b, append(sample.Reports("scrap 1 z; ? make 1 y axle"), l...), "v1", day, choice)
		if !slices.Equal(got, more) || err != err2 {
			t.Fatal(l, b, day, choice)
		}
	})
}
