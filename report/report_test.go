package report_test

import (
	"math/rand"
	"reflect"
	"slices"
	"strings"
	"testing"

	"bogie/api"
	"bogie/report"
	"bogie/sample"
)

// invalid returns reports that are not valid.
func invalid() []api.Report {
	e := sample.Event("scrap 1 a")
	other := func(day int) api.Event { e := e; e.Day = day; return e }
	return []api.Report{{}, {Doubtful: true}, {Options: []api.Event{{}}}, {Options: []api.Event{e, e}}, {Options: []api.Event{e, other(2), e}}, {Options: []api.Event{e, other(-1)}}, {Options: []api.Event{other(1), other(2), other(3), other(4), other(5)}}}
}

func TestValid(t *testing.T) { // P13.1: M1
	for text, want := range map[string]int{"make 3 a axle": 1, "? make 3 a axle": 2, "remove 5 a | remove 5 b": 2, "? remove 5 a | remove 5 b": 3, "scrap 1 a | scrap 2 a | scrap 3 a | scrap 4 a": 4, "? scrap 1 a | scrap 2 a | scrap 3 a | scrap 4 a": 5} {
		r := sample.Report(text)
		if !report.Valid(r) || report.Choices(r) != want {
			t.Error(text)
		}
	}
	for i, r := range invalid() {
		s, err := report.Text(r)
		if report.Valid(r) || report.Choices(r) != 0 || len(report.Names(r)) != 0 || s != "" || err != api.ErrArg {
			t.Error(i)
		}
	}
}

func TestNames(t *testing.T) { // P13.3, and P13.1: M2
	for text, want := range map[string][]string{"make 3 a axle": {"a"}, "? fit 5 b w x | fit 5 a w x": {"a", "b", "w"}, "scrap 1 z | scrap 2 z | remove 3 a": {"a", "z"}} {
		if got := report.Names(sample.Report(text)); !slices.Equal(got, want) {
			t.Error(text, got)
		}
	}
}

func TestPicked(t *testing.T) { // P13.4, and P13.1: M3
	l := sample.Reports("make 1 a axle; scrap 5 a | scrap 4 a; ? remove 3 b | remove 2 b")
	for _, c := range []struct {
		choice []int
		want   string
	}{{[]int{0, 0, 0}, "make 1 a axle; scrap 5 a; remove 3 b"}, {[]int{0, 1, 1}, "make 1 a axle; scrap 4 a; remove 2 b"}, {[]int{0, 1, 2}, "make 1 a axle; scrap 4 a"}} {
		got, err := report.Picked(l, c.choice)
		if err != api.OK || !slices.Equal(got, sample.Events(c.want)) {
			t.Error(c, got, err)
		}
	}
	for _, choice := range [][]int{nil, {0, 0}, {0, 0, 0, 0}, {1, 0, 0}, {0, 2, 0}, {0, 0, 3}, {0, 0, -1}} {
		if got, err := report.Picked(l, choice); len(got) != 0 || err != api.ErrArg {
			t.Error(choice, got, err)
		}
	}
	for i, r := range invalid() {
		if got, err := report.Picked([]api.Report{l[0], r}, []int{0, 0}); len(got) != 0 || err != api.ErrArg {
			t.Error(i, got, err)
		}
	}
	if got, err := report.Picked(nil, nil); len(got) != 0 || err != api.OK {
		t.Error(got, err)
	}
}

func random(r *rand.Rand) []api.Report { return sample.RandomReports(r.Intn, 12, 6) }

// choices returns random choices for reports.
func choices(r *rand.Rand, l []api.Report) []int {
	var c []int
	for _, p := range l {
		c = append(c, r.Intn(report.Choices(p)))
	}
	return c
}

func TestTexts(t *testing.T) { // P13.2, and P13.1: M4
	for text, want := range map[string]string{"make 3 a axle": "sure\nmake 3 a axle\n", "? remove 5 a | remove 5 b": "perhaps\nremove 5 a\nremove 5 b\n", `note 1 a k "x\ny"`: "sure\nnote 1 a k \"x\\ny\"\n"} {
		if s, err := report.Text(sample.Report(text)); s != want || err != api.OK {
			t.Error(s, err)
		}
	}
	r := rand.New(rand.NewSource(1))
	seen := map[string]api.Report{}
	for range 200 {
		for _, p := range random(r) {
			s, err := report.Text(p)
			got, err2 := report.Parse(s)
			if err != api.OK || err2 != api.OK || !reflect.DeepEqual(got, p) {
				t.Fatal(s, got)
			}
			if old, ok := seen[s]; ok && !reflect.DeepEqual(old, p) {
				t.Fatal(s)
			}
			seen[s] = p
		}
	}
	for _, s := range []string{"", "sure", "sure\n", "perhaps\n", "\n", "Sure\nmake 3 a axle\n", "sure\nmake 3 a axle", "sure\nmake 3 a axle\n\n", "sure\n\nmake 3 a axle\n", "sure\nmake 03 a axle\n", "sure\nmake 3 a axle \n", "sure\nscrap 1 a\nscrap 1 a\n", "maybe\nscrap 1 a\n", " sure\nscrap 1 a\n", "sure\r\nscrap 1 a\n", "scrap 1 a\n", "sure\nscrap 1 a\nscrap 2 a\nscrap 3 a\nscrap 4 a\nscrap 5 a\n", "sure\n" + strings.Repeat("x", 19995)} {
		if got, err := report.Parse(s); err != api.ErrSyntax || !reflect.DeepEqual(got, api.Report{}) {
			t.Errorf("%.30q: %d", s, err)
		}
	}
	if got, err := report.Parse("sure\n" + strings.Repeat("x", 19996)); err != api.ErrLimit || !reflect.DeepEqual(got, api.Report{}) {
		t.Error(got, err)
	}
}

func TestPicking(t *testing.T) { // P13.4
	r := rand.New(rand.NewSource(2))
	for range 200 {
		l := random(r)
		choice := choices(r, l)
		got, _ := report.Picked(l, choice)
		for i, p := range l {
			if choice[i] == len(p.Options) {
				continue
			}
			if len(got) == 0 || got[0] != p.Options[choice[i]] {
				t.Fatal(l, choice, got)
			}
			got = got[1:]
		}
		if len(got) != 0 {
			t.Fatal(l, choice, got)
		}
	}
}

func TestJoining(t *testing.T) { // P13.5
	r := rand.New(rand.NewSource(3))
	for range 200 {
		a, b := random(r), random(r)
		x, y := choices(r, a), choices(r, b)
		one, _ := report.Picked(a, x)
		two, _ := report.Picked(b, y)
		both, err := report.Picked(append(a, b...), append(x, y...))
		if err != api.OK || !slices.Equal(both, append(one, two...)) {
			t.Fatal(a, b)
		}
	}
}

func TestFewerOptions(t *testing.T) { // P13.6
	r := rand.New(rand.NewSource(4))
	for range 100 {
		for _, p := range random(r) {
			if len(p.Options) < 2 {
				continue
			}
			i := r.Intn(len(p.Options))
			fewer := api.Report{Doubtful: p.Doubtful, Options: slices.Delete(slices.Clone(p.Options), i, i+1)}
			if report.Choices(fewer) != report.Choices(p)-1 {
				t.Fatal(p)
			}
			for k := range fewer.Options {
				old := k
				if k >= i {
					old++
				}
				a, _ := report.Picked([]api.Report{fewer}, []int{k})
				b, _ := report.Picked([]api.Report{p}, []int{old})
				if !slices.Equal(a, b) {
					t.Fatal(p, i, k)
				}
			}
		}
	}
}

func TestDoubt(t *testing.T) { // P13.7
	r := rand.New(rand.NewSource(5))
	for range 100 {
		for _, p := range random(r) {
			if (report.Choices(p) > 1) != (len(p.Options) > 1 || p.Doubtful) || report.Choices(p) < 1 {
				t.Fatal(p)
			}
			if _, err := report.Picked([]api.Report{p}, []int{0}); err != api.OK {
				t.Fatal(p)
			}
			if _, err := report.Picked([]api.Report{p}, []int{1}); (err == api.OK) != (report.Choices(p) > 1) {
				t.Fatal(p)
			}
		}
	}
}
