package possible_test

import (
	"fmt"
	"math/rand"
	"reflect"
	"slices"
	"testing"

	"bogie/api"
	"bogie/possible"
	"bogie/report"
	"bogie/sample"
	"bogie/search"
)

var kinds = sample.Kinds()

func both(t *testing.T, l []api.Report) ([][]bool, []int, api.Errno) {
	t.Helper()
	table, err := possible.Choices(kinds, l)
	sure, err2 := possible.Sure(kinds, l)
	if err != err2 || err != api.OK && (table != nil || sure != nil) {
		t.Fatal(l, err, err2)
	}
	return table, sure, err
}

// overhauls returns doubtful reports of a part, all choices of which are possible.
func overhauls(part string, n int) []api.Report {
	l := sample.Reports("make 0 " + part + " axle")
	for i := range n {
		l = append(l, sample.Report(fmt.Sprintf("? overhaul %d %s", i+1, part)))
	}
	return l
}

func TestValues(t *testing.T) { // P17.1
	l := sample.Reports("make 1 m1 motor; make 1 v1 coach; fit 3 m1 v1 m | fit 3 m2 v1 m; ? scrap 2 m1")
	table, sure, err := both(t, l)
	if !reflect.DeepEqual(table, [][]bool{{true}, {true}, {true, false}, {false, true}}) || !slices.Equal(sure, []int{0, 0, 0, 1}) || err != api.OK {
		t.Error(table, sure, err)
	}
	table, sure, err = both(t, sample.Reports("? make 1 a axle; make 1 b axle | make 2 b axle; ? scrap 1 b"))
	if !reflect.DeepEqual(table, [][]bool{{true, true}, {true, true}, {true, true}}) || !slices.Equal(sure, []int{-1, -1, -1}) || err != api.OK {
		t.Error(table, sure, err)
	}
	if table, sure, err := both(t, nil); len(table) != 0 || len(sure) != 0 || err != api.OK {
		t.Error(table, sure, err)
	}
}

func TestErrors(t *testing.T) { // P17.1
	none := sample.Reports("scrap 1 z")
	for _, c := range []struct {
		l    []api.Report
		want api.Errno
	}{
		{none, api.ErrDoubt}, {append(overhauls("a", 2), none...), api.ErrDoubt}, {append(overhauls("a", 12), none...), api.ErrLimit}, {append(slices.Clone(none), overhauls("a", 12)...), api.ErrLimit},
		{overhauls("a", 11), api.OK}, {overhauls("a", 31), api.ErrLimit}, {append(overhauls("a", 11), overhauls("b", 11)...), api.OK},
		{append(overhauls("a", 12), api.Report{}), api.ErrArg}, {append(slices.Clone(none), api.Report{}), api.ErrArg},
	} {
		if _, _, err := both(t, c.l); err != c.want {
			t.Error(len(c.l), err, c.want)
		}
	}
	bad := api.Catalog{Kinds: []api.Kind{{}}}
	if table, err := possible.Choices(bad, nil); table != nil || err != api.ErrArg {
		t.Error(table, err)
	}
	if sure, err := possible.Sure(bad, none); sure != nil || err != api.ErrArg {
		t.Error(sure, err)
	}
}

// lists calls a function with random reports that have a history, and with all histories.
func lists(t *testing.T, seed int64, check func(r *rand.Rand, l []api.Report, histories [][]int)) {
	t.Helper()
	r := rand.New(rand.NewSource(seed))
	for range 150 {
		l := sample.RandomReports(r.Intn, 9, 5)
		if histories, err := search.All(kinds, l, 4096); err == api.OK {
			check(r, l, histories)
		} else if _, _, err := both(t, l); err != api.ErrDoubt {
			t.Fatal(l, err)
		}
	}
}

func TestSureAndPossible(t *testing.T) { // P17.2, P17.3 and P17.4
	lists(t, 1, func(_ *rand.Rand, l []api.Report, histories [][]int) {
		table, sure, _ := both(t, l)
		for i, row := range table {
			if len(row) != report.Choices(l[i]) {
				t.Fatal(l, table)
			}
			var open []int
			for k := range row {
				witness := slices.ContainsFunc(histories, func(h []int) bool { return h[i] == k })
				if row[k] != witness {
					t.Fatal(l, i, k)
				}
				if row[k] {
					open = append(open, k)
				}
			}
			if len(open) == 0 || (len(open) == 1) != (sure[i] >= 0) || len(open) == 1 && sure[i] != open[0] || sure[i] < -1 {
				t.Fatal(l, i, open, sure[i])
			}
		}
	})
}

func TestEvidence(t *testing.T) { // P17.5
	lists(t, 2, func(r *rand.Rand, l []api.Report, histories [][]int) {
		table, sure, _ := both(t, l)
		i := r.Intn(len(l))
		for k, e := range l[i].Options {
			if !table[i][k] {
				continue
			}
			decided := slices.Clone(l)
			decided[i] = api.Report{Options: []api.Event{e}}
			table2, sure2, err := both(t, decided)
			if err != api.OK {
				t.Fatal(l, err)
			}
			for j := range l {
				if j == i {
					continue
				}
				if sure[j] >= 0 && sure2[j] != sure[j] {
					t.Fatal("not sure any more:", l, i, k, j)
				}
				for c := range table2[j] {
					if table2[j][c] && !table[j][c] {
						t.Fatal("became possible:", l, i, k, j)
					}
				}
			}
		}
	})
}

func TestOthers(t *testing.T) { // P17.6
	lists(t, 3, func(_ *rand.Rand, l []api.Report, histories [][]int) {
		table, sure, _ := both(t, l)
		other := overhauls("other", 3)
		table2, sure2, err := both(t, append(other, l...))
		if err != api.OK || !reflect.DeepEqual(table2[4:], table) || !slices.Equal(sure2[4:], sure) {
			t.Fatal(l, err)
		}
	})
}
