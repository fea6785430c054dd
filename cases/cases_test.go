package cases_test

import (
	"fmt"
	"reflect"
	"slices"
	"testing"

	"bogie/api"
	"bogie/cases"
	"bogie/sample"
)

func TestAbout(t *testing.T) {
	l := sample.Reports("make 1 a axle; make 1 b axle; ? scrap 3 a")
	if got := cases.About(l, "a"); !reflect.DeepEqual(got, []api.Report{l[0], l[2]}) {
		t.Error(got)
	}
	if got := cases.About(l, "x"); len(got) != 0 {
		t.Error(got)
	}
	if !cases.AreValid(l) || cases.AreValid(append(l, api.Report{})) {
		t.Error("AreValid")
	}
}

// overhauls returns reports with so many histories that they are a power of two.
func overhauls(n int) []api.Report {
	l := sample.Reports("make 0 a axle")
	for i := range n {
		l = append(l, sample.Report(fmt.Sprintf("? overhaul %d a", i+1)))
	}
	return l
}

func TestHistories(t *testing.T) {
	kinds := sample.Kinds()
	if got, err := cases.Histories(kinds, overhauls(11)); len(got) != 2048 || err != api.OK {
		t.Error(len(got), err)
	}
	for want, l := range map[api.Errno][]api.Report{api.ErrLimit: overhauls(12), api.ErrDoubt: sample.Reports("scrap 1 a"), api.ErrArg: {{}}} {
		if got, err := cases.Histories(kinds, l); len(got) != 0 || err != want {
			t.Error(len(got), err)
		}
	}
	if got, err := cases.Histories(kinds, overhauls(31)); len(got) != 0 || err != api.ErrLimit {
		t.Error(len(got), err)
	}
	l := sample.Reports("make 1 a axle; ? scrap 3 a")
	histories, _ := cases.Histories(kinds, l)
	got := cases.Events(l, histories)
	if len(got) != 2 || !slices.Equal(got[0], sample.Events("make 1 a axle; scrap 3 a")) || !slices.Equal(got[1], sample.Events("make 1 a axle")) {
		t.Error(got)
	}
}

func TestMade(t *testing.T) {
	l := append(sample.Reports("make 1 b axle | make 1 a axle; make 2 b axle; make 1 w wheelset; scrap 1 z"), api.Report{Options: []api.Event{{Op: api.OpMake, Part: "odd", Kind: "axle"}}})
	if got := cases.Made(l, func(kind string) bool { return kind == "axle" }); !slices.Equal(got, []string{"a", "b", "odd"}) {
		t.Error(got)
	}
}

func TestIsSetup(t *testing.T) {
	if !cases.IsSetup(sample.Setup()) || cases.IsSetup(api.Setup{}) {
		t.Error("IsSetup")
	}
}
