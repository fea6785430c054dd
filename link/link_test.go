package link_test

import (
	"math/rand"
	"reflect"
	"slices"
	"testing"

	"bogie/api"
	"bogie/link"
	"bogie/report"
	"bogie/sample"
)

func TestValues(t *testing.T) { // P14.1
	l := sample.Reports("scrap 1 a; scrap 1 b; fit 1 a c x; scrap 1 c")
	if got := link.Components(l); !reflect.DeepEqual(got, [][]int{{0, 2, 3}, {1}}) {
		t.Error(got)
	}
	for part, want := range map[string][]int{"a": {0, 2, 3}, "c": {0, 2, 3}, "b": {1}, "x": nil, "": nil} {
		if got := link.Of(l, part); !slices.Equal(got, want) {
			t.Error(part, got)
		}
	}
	l = append(l, api.Report{}, sample.Report("? scrap 2 b | scrap 2 c"), api.Report{}, sample.Report("? scrap 2 d"))
	if got := link.Components(l); !reflect.DeepEqual(got, [][]int{{0, 1, 2, 3, 5}, {4}, {6}, {7}}) {
		t.Error(got)
	}
	// An option that is chosen by nobody links, too; one of a report that is not valid does not.
	l = []api.Report{sample.Report("scrap 1 a"), {Options: append(sample.Events("scrap 1 a"), api.Event{})}, sample.Report("scrap 2 a | scrap 2 a | scrap 2 b")}
	if got := link.Components(l); !reflect.DeepEqual(got, [][]int{{0}, {1}, {2}}) {
		t.Error(got)
	}
	if len(link.Components(nil)) != 0 || len(link.Of(nil, "a")) != 0 || link.Doubts(nil) != 0 {
		t.Error("an empty list")
	}
	if n := link.Doubts(sample.Reports("scrap 1 a; ? scrap 1 a; scrap 1 a | scrap 1 b; scrap 2 a")); n != 2 {
		t.Error(n)
	}
	if n := link.Doubts([]api.Report{{Doubtful: true}, {Options: make([]api.Event, 2)}}); n != 0 {
		t.Error(n)
	}
	long := slices.Repeat([]api.Report{sample.Report("scrap 1 a")}, 5000)
	if got := link.Components(long); len(got) != 1 || len(got[0]) != 5000 {
		t.Error(len(got))
	}
}

// random returns reports about a few of many parts.
func random(r *rand.Rand) []api.Report {
	var l []api.Report
	name := func() string { return string(rune('a' + r.Intn(12))) }
	for range r.Intn(10) {
		switch r.Intn(4) {
		case 0:
			l = append(l, api.Report{})
		case 1:
			a, b := name(), name()
			if a != b {
				l = append(l, sample.Report("fit 1 "+a+" "+b+" x"))
			}
		case 2:
			l = append(l, sample.Report("? scrap 1 "+name()+"| scrap 2 "+name()))
		default:
			l = append(l, sample.Report("scrap 1 "+name()))
		}
	}
	return l
}

func TestDivision(t *testing.T) { // P14.2, P14.3, P14.4 and P14.7
	r := rand.New(rand.NewSource(1))
	for range 1000 {
		l := random(r)
		sets := link.Components(l)
		var all []int
		home := map[string]int{}
		doubts := 0
		for k, set := range sets {
			if len(set) == 0 || !slices.IsSorted(set) || k > 0 && sets[k-1][0] >= set[0] {
				t.Fatal(sets)
			}
			all = append(all, set...)
			var part []api.Report
			for _, i := range set {
				part = append(part, l[i])
				for _, name := range report.Names(l[i]) {
					if old, ok := home[name]; ok && old != k {
						t.Fatal("a part of two components:", l, sets)
					}
					home[name] = k
				}
			}
			doubts += link.Doubts(part)
			connected(t, l, set)
		}
		slices.Sort(all)
		for i := range l {
			if i >= len(all) || all[i] != i {
				t.Fatal(l, sets)
			}
		}
		if len(all) != len(l) || doubts != link.Doubts(l) {
			t.Fatal(l, sets, doubts)
		}
		for name, k := range home {
			if !slices.Equal(link.Of(l, name), sets[k]) {
				t.Fatal(l, name)
			}
		}
	}
}

// connected checks that one comes from the first report of a component to all others.
func connected(t *testing.T, l []api.Report, set []int) {
	t.Helper()
	reached := map[int]bool{set[0]: true}
	for range set {
		for _, i := range set {
			for _, j := range set {
				linked := slices.ContainsFunc(report.Names(l[i]), func(n string) bool { return slices.Contains(report.Names(l[j]), n) })
				if reached[i] && linked {
					reached[j] = true
				}
			}
		}
	}
	if len(reached) != len(set) {
		t.Fatal("not connected:", l, set)
	}
}

func TestOrder(t *testing.T) { // P14.5
	r := rand.New(rand.NewSource(2))
	for range 500 {
		l := random(r)
		back := slices.Clone(l)
		slices.Reverse(back)
		var got [][]int
		for _, set := range link.Components(back) {
			for i := range set {
				set[i] = len(l) - 1 - set[i]
			}
			slices.Sort(set)
			got = append(got, set)
		}
		slices.SortFunc(got, func(a, b []int) int { return a[0] - b[0] })
		if !slices.EqualFunc(got, link.Components(l), slices.Equal) {
			t.Fatal(l, got)
		}
	}
}

func TestFurtherReport(t *testing.T) { // P14.6
	r := rand.New(rand.NewSource(3))
	for range 500 {
		l := random(r)
		if len(l) == 0 {
			continue
		}
		last := len(l) - 1
		var want [][]int
		joined := []int{last}
		for _, set := range link.Components(l[:last]) {
			touches := slices.ContainsFunc(set, func(i int) bool {
				return slices.ContainsFunc(report.Names(l[i]), func(n string) bool { return slices.Contains(report.Names(l[last]), n) })
			})
			if touches {
				joined = append(joined, set...)
			} else {
				want = append(want, set)
			}
		}
		slices.Sort(joined)
		want = append(want, joined)
		slices.SortFunc(want, func(a, b []int) int { return a[0] - b[0] })
		if got := link.Components(l); !slices.EqualFunc(got, want, slices.Equal) {
			t.Fatal(l, got, want)
		}
	}
}
