package search_test

import (
	"fmt"
	"math"
	"math/rand"
	"slices"
	"strings"
	"testing"

	"bogie/api"
	"bogie/history"
	"bogie/report"
	"bogie/sample"
	"bogie/search"
)

var kinds = sample.Kinds()

func all(t *testing.T, l []api.Report, most int) [][]int {
	t.Helper()
	got, err := search.All(kinds, l, most)
	if err != api.OK && (err != api.ErrDoubt || len(got) != 0) {
		t.Fatal(l, err)
	}
	return got
}

func equal(a, b [][]int) bool { return slices.EqualFunc(a, b, slices.Equal) }

// every returns all histories of reports, of all choices.
func every(l []api.Report) [][]int {
	var found [][]int
	choice := make([]int, len(l))
	var from func(i int)
	from = func(i int) {
		if i == len(l) {
			if history.Is(kinds, l, choice) {
				found = append(found, slices.Clone(choice))
			}
			return
		}
		for choice[i] = 0; choice[i] < report.Choices(l[i]); choice[i]++ {
			from(i + 1)
		}
	}
	from(0)
	return found
}

const example = "make 1 a axle; make 1 b axle; make 1 w wheelset; fit 5 a w axle | fit 5 b w axle; ? remove 6 a;"

func TestValues(t *testing.T) { // P16.1
	l := sample.Reports(example)
	if h, err := search.First(kinds, l); !slices.Equal(h, []int{0, 0, 0, 0, 0}) || err != api.OK {
		t.Error(h, err)
	}
	if got := all(t, l, 10); !equal(got, [][]int{{0, 0, 0, 0, 0}, {0, 0, 0, 0, 1}, {0, 0, 0, 1, 1}}) {
		t.Error(got)
	}
	if got := all(t, append(l, sample.Report("remove 8 b")), 10); !equal(got, [][]int{{0, 0, 0, 1, 1, 0}}) {
		t.Error(got)
	}
	for most, want := range map[int]int{1: 1, 2: 2, 3: 3, 4: 3, 4096: 3} {
		if n, err := search.Count(kinds, l, most); n != want || err != api.OK {
			t.Error(most, n, err)
		}
	}
	if got := all(t, sample.Reports("make 40000 a axle | make 39999 a axle; ? scrap 40000 a; ? make 40000 a axle"), 9); !equal(got, [][]int{{0, 0, 1}, {0, 1, 1}, {1, 0, 1}, {1, 1, 1}}) {
		t.Error(got)
	}
	if got, err := search.All(kinds, nil, 5); !equal(got, [][]int{{}}) || err != api.OK {
		t.Error(got, err)
	}
	if h, err := search.First(kinds, nil); len(h) != 0 || err != api.OK {
		t.Error(h, err)
	}
}

func TestErrors(t *testing.T) { // P16.1
	check := func(c api.Catalog, l []api.Report, most int, want, first api.Errno) {
		t.Helper()
		h, err := search.First(c, l)
		a, err2 := search.All(c, l, most)
		n, err3 := search.Count(c, l, most)
		count := want
		if want == api.ErrDoubt {
			count = api.OK
		}
		if h != nil || err != first || a != nil || err2 != want || n != 0 || err3 != count {
			t.Error(l, most, err, err2, n, err3)
		}
	}
	no := sample.Reports("scrap 1 a")
	check(kinds, no, 1, api.ErrDoubt, api.ErrDoubt)
	check(kinds, []api.Report{{}}, 1, api.ErrArg, api.ErrArg)
	check(api.Catalog{Kinds: []api.Kind{{}}}, no, 1, api.ErrArg, api.ErrArg)
	for _, most := range []int{0, -1, 4097, math.MaxInt} {
		check(kinds, no, most, api.ErrArg, api.ErrDoubt)
	}
	doubts := slices.Repeat(sample.Reports("? scrap 1 a"), 31)
	check(kinds, doubts, 1, api.ErrLimit, api.ErrLimit)
	check(kinds, append(doubts, api.Report{}), 1, api.ErrArg, api.ErrArg)
	check(kinds, append(doubts, sample.Report("scrap 1 a")), 0, api.ErrArg, api.ErrLimit)
	if h, err := search.First(kinds, doubts[:30]); err != api.OK || !slices.Equal(h, slices.Repeat([]int{1}, 30)) {
		t.Error(h, err)
	}
}

func TestComplete(t *testing.T) { // P16.2, P16.3 and P16.4
	r := rand.New(rand.NewSource(1))
	many := 0
	for range 150 {
		l := sample.RandomReports(r.Intn, 10, 6)
		want := every(l)
		if got := all(t, l, 4096); !equal(got, want) {
			t.Fatal(l, got, want)
		}
		if len(want) > 1 {
			many++
		}
		for _, most := range []int{1, 2, 5} {
			if got := all(t, l, most); !equal(got, want[:min(most, len(want))]) {
				t.Fatal(l, most, got)
			}
			if n, err := search.Count(kinds, l, most); n != min(most, len(want)) || err != api.OK {
				t.Fatal(l, most, n)
			}
		}
		h, err := search.First(kinds, l)
		if len(want) == 0 && err != api.ErrDoubt || len(want) > 0 && !slices.Equal(h, want[0]) {
			t.Fatal(l, h, err)
		}
	}
	if many < 20 {
		t.Error("too few lists with several histories:", many)
	}
}

func TestIndependence(t *testing.T) { // P16.5
	a := sample.Reports(example)
	b := sample.Reports("? make 1 c axle; ? scrap 3 c; make 2 d axle | make 4 d axle; scrap 3 d | scrap 5 d")
	var want [][]int
	for _, x := range all(t, a, 100) {
		for _, y := range all(t, b, 100) {
			want = append(want, append(slices.Clone(x), y...))
		}
	}
	if got := all(t, append(a, b...), 100); !equal(got, want) {
		t.Error(got, want)
	}
	none := sample.Reports("scrap 5 z")
	if got := all(t, append(b, none...), 100); len(got) != 0 {
		t.Error(got)
	}
}

func TestEvidence(t *testing.T) { // P16.6
	r := rand.New(rand.NewSource(2))
	for range 100 {
		l := sample.RandomReports(r.Intn, 10, 5)
		i := r.Intn(len(l))
		for k, e := range l[i].Options {
			decided := slices.Clone(l)
			decided[i] = api.Report{Options: []api.Event{e}}
			var want [][]int
			for _, h := range all(t, l, 4096) {
				if h[i] == k {
					h[i] = 0
					want = append(want, h)
				}
			}
			if got := all(t, decided, 4096); !equal(got, want) {
				t.Fatal(l, i, k)
			}
		}
	}
}

func TestNoDoubt(t *testing.T) { // P16.7
	r := rand.New(rand.NewSource(3))
	for range 100 {
		l := sample.RandomReports(r.Intn, 6, 0)
		got := all(t, l, 10)
		if len(got) > 1 || len(got) == 1 && !slices.Equal(got[0], make([]int, len(l))) {
			t.Fatal(l, got)
		}
	}
}

// With 30 doubtful reports, in whatever order, histories are found without trying all choices.
func TestManyDoubts(t *testing.T) { // P16.1
	var texts []string
	for i := range 30 {
		texts = append(texts, fmt.Sprintf("? make %d a%d axle", i, i), fmt.Sprintf("scrap %d a%d", i+5, i))
	}
	forth := sample.Reports(strings.Join(texts, ";"))
	back := slices.Clone(forth)
	slices.Reverse(back)
	for _, l := range [][]api.Report{forth, back} {
		if got := all(t, l, 100); !equal(got, [][]int{make([]int, 60)}) {
			t.Error(got)
		}
	}
	// The last report makes all but one of the choices before false.
	chain := sample.Reports("make 0 w wheelset; make 0 a axle; fit 0 a w axle")
	for i := range 29 {
		chain = append(chain, sample.Report(fmt.Sprintf("remove %d a | fit %d a w axle", i+1, i+1)))
	}
	if got := all(t, chain, 4096); len(got) != 1 {
		t.Error(len(got))
	}
	slices.Reverse(chain[3:])
	if got := all(t, chain, 4096); len(got) != 1 {
		t.Error(len(got))
	}
	free := sample.Reports("make 0 a axle")
	for i := range 30 {
		free = append(free, sample.Report(fmt.Sprintf("? overhaul %d a", i+1)))
	}
	got := all(t, free, 4096)
	if n, err := search.Count(kinds, free, 4096); n != 4096 || err != api.OK || len(got) != 4096 || got[4095][18] != 0 || got[4095][19] != 1 {
		t.Error(n, err)
	}
}
