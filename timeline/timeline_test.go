package timeline_test

import (
	"fmt"
	"slices"
	"testing"

	"bogie/sample"
	"bogie/timeline"
)

func TestFind(t *testing.T) {
	l := sample.Reports("? scrap 5 a; make 1 a axle | make 3 a axle; overhaul 2 a | overhaul 6 a; ? make 1 b axle; ? scrap 2 b")
	find := timeline.New(sample.Kinds(), l)
	const open = timeline.Open
	for _, c := range []struct{ choice, want []int }{
		{[]int{open, open, open, open, open}, []int{0, 0, 0, 0, 0}},
		{[]int{0, 1, open, open, open}, nil},
		{[]int{open, 1, open, 1, open}, []int{1, 1, 1, 1, 1}},
		{[]int{open, open, 1, open, 0}, []int{1, 0, 1, 0, 0}},
		{[]int{open, open, open, 1, 0}, nil},
	} {
		got, ok := find.Find(c.choice)
		if ok != (c.want != nil) || !slices.Equal(got, c.want) {
			t.Error(c, got, ok)
		}
	}
	got, ok := find.Change([]int{1, 0, 1, 0, 0}, []int{open, open, open, 1, open}, 3)
	if !ok || !slices.Equal(got, []int{1, 0, 1, 1, 1}) {
		t.Error(got, ok)
	}
	if got, ok := find.Change([]int{1, 0, 1, 0, 0}, []int{0, open, 1, open, open}, 0); ok || got != nil {
		t.Error(got, ok)
	}
}

// What was done before, in so many ways, makes no difference for what is not possible in the end.
func TestHopeless(t *testing.T) {
	l := sample.Reports("make 0 a axle; make 0 w wheelset; remove 90 a")
	choice := []int{timeline.Open, timeline.Open, timeline.Open}
	for i := range 30 {
		l = append(l, sample.Report([]string{fmt.Sprintf("? overhaul %d a", i+1), fmt.Sprintf("? note %d a k \"%d\"", i+1, i), fmt.Sprintf("? note %d a k \"x\" | overhaul %d a", i+1, i+1)}[i%3]))
		choice = append(choice, timeline.Open)
	}
	if got, ok := timeline.New(sample.Kinds(), l).Find(choice); ok {
		t.Error(got)
	}
	l = append(l, sample.Report("? fit 50 a w axle"))
	got, ok := timeline.New(sample.Kinds(), l).Find(append(choice, timeline.Open))
	if !ok || got[33] != 0 {
		t.Error(got)
	}
}
