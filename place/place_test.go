package place_test

import (
	"fmt"
	"math"
	"math/rand"
	"reflect"
	"slices"
	"testing"

	"bogie/api"
	"bogie/cases"
	"bogie/course"
	"bogie/fleet"
	"bogie/place"
	"bogie/sample"
	"bogie/search"
)

var kinds = sample.Kinds()

func at(into, slot string) api.Place { return api.Place{Into: into, Slot: slot} }

const example = "make 1 a axle; make 1 b axle; make 1 w wheelset; fit 5 a w axle | fit 5 b w axle; ? remove 6 a;"

func TestValues(t *testing.T) { // P19.1
	l := sample.Reports(example)
	for day, want := range map[int][]api.Place{5: {at("", ""), at("w", "axle")}, 6: {at("", ""), at("w", "axle")}, 4: {at("", "")}, math.MaxInt: {at("", ""), at("w", "axle")}} {
		if got, err := place.Of(kinds, l, "a", day); !slices.Equal(got, want) || err != api.OK {
			t.Error(day, got, err)
		}
	}
	for day, want := range map[int][]string{5: {"a", "b"}, 6: {"", "a", "b"}, 1: {""}} {
		if got, err := place.Occupants(kinds, l, "w", "axle", day); !slices.Equal(got, want) || err != api.OK {
			t.Error(day, got, err)
		}
	}
	if got, err := place.Occupants(kinds, l, "w", "front", 6); !slices.Equal(got, []string{""}) || err != api.OK {
		t.Error(got, err)
	}
	if got, err := place.Roots(kinds, l, "b", 6); !slices.Equal(got, []string{"b", "w"}) || err != api.OK {
		t.Error(got, err)
	}
	l = append(l, sample.Reports("make 1 c coach; fit 7 w c rear | fit 7 w c front")...)
	if got, err := place.Roots(kinds, l, "b", 7); !slices.Equal(got, []string{"b", "c"}) || err != api.OK {
		t.Error(got, err)
	}
	if got, err := place.Of(kinds, l, "w", 7); !slices.Equal(got, []api.Place{at("c", "front"), at("c", "rear")}) || err != api.OK {
		t.Error(got, err)
	}
}

func overhauls(n int) []api.Report {
	l := sample.Reports("make 0 v coach")
	for i := range n {
		l = append(l, sample.Report(fmt.Sprintf("? overhaul %d v", i+1)))
	}
	return l
}

func TestErrors(t *testing.T) { // P19.1
	l := sample.Reports("make 3 v coach; ? scrap 5 v; ? make 4 u coach")
	for _, c := range []struct {
		c    api.Catalog
		l    []api.Report
		part string
		day  int
		want api.Errno
	}{
		{kinds, l, "v", 3, api.OK}, {kinds, l, "v", 2, api.ErrNone}, {kinds, l, "v", -5, api.ErrNone}, {kinds, l, "x", 3, api.ErrNone}, {kinds, nil, "v", 3, api.ErrNone}, {kinds, l, "u", 3, api.ErrNone}, {kinds, l, "u", 4, api.OK},
		{api.Catalog{Kinds: []api.Kind{{}}}, nil, "v", 3, api.ErrArg}, {kinds, append(slices.Clone(l), api.Report{}), "x", 3, api.ErrArg},
		{kinds, overhauls(11), "v", 3, api.OK}, {kinds, overhauls(12), "v", 3, api.ErrLimit}, {kinds, overhauls(31), "v", 3, api.ErrLimit}, {kinds, append(overhauls(31), sample.Report("remove 1 v")), "v", 3, api.ErrLimit}, {kinds, append(overhauls(2), sample.Report("remove 1 v")), "v", 3, api.ErrDoubt},
	} {
		a, err := place.Of(c.c, c.l, c.part, c.day)
		b, err2 := place.Occupants(c.c, c.l, c.part, "m", c.day)
		d, err3 := place.Roots(c.c, c.l, c.part, c.day)
		if err != c.want || err2 != c.want || err3 != c.want || err != api.OK && (a != nil || b != nil || d != nil) {
			t.Error(len(c.l), c.part, c.day, err, err2, err3)
		}
	}
}

// lists calls a function with random reports that have a history, and a day.
func lists(t *testing.T, seed int64, doubts int, check func(r *rand.Rand, l []api.Report, day int)) {
	t.Helper()
	r := rand.New(rand.NewSource(seed))
	for range 50 {
		l := sample.RandomReports(r.Intn, 16, doubts)
		if _, err := search.First(kinds, l); err == api.OK {
			check(r, l, r.Intn(20))
		}
	}
}

var names = []string{"a1", "a2", "w1", "w2", "m1", "v1", "v2"}

func TestHistories(t *testing.T) { // P19.2
	lists(t, 1, 5, func(_ *rand.Rand, l []api.Report, day int) {
		for _, part := range names {
			own := cases.About(l, part)
			histories, _ := search.All(kinds, own, 4096)
			places, roots, inFront := map[api.Place]bool{}, map[string]bool{}, map[string]bool{}
			for _, events := range cases.Events(own, histories) {
				s, _, _ := course.At(kinds, events, day)
				p, ok := fleet.Find(s, part)
				if !ok {
					continue
				}
				places[at(p.Into, p.Slot)] = true
				roots[fleet.Root(s, part)] = true
				occupant := ""
				for _, q := range s.Parts {
					if q.Into == part && q.Slot == "front" {
						occupant = q.Name
					}
				}
				inFront[occupant] = true
			}
			gotPlaces, err := place.Of(kinds, l, part, day)
			gotRoots, _ := place.Roots(kinds, l, part, day)
			gotFront, _ := place.Occupants(kinds, l, part, "front", day)
			if (err == api.OK) != (len(places) > 0) || !same(gotPlaces, places) || !same(gotRoots, roots) || !same(gotFront, inFront) {
				t.Fatal(l, part, day, gotPlaces, gotRoots, gotFront)
			}
			if !slices.IsSorted(gotRoots) || !slices.IsSorted(gotFront) {
				t.Fatal("not in order", gotRoots, gotFront)
			}
		}
	})
}

// same reports whether a list has the elements of a set, each once.
func same[T comparable](l []T, set map[T]bool) bool {
	found := map[T]bool{}
	for _, e := range l {
		found[e] = true
	}
	return len(l) == len(set) && reflect.DeepEqual(found, set)
}

func TestBothWays(t *testing.T) { // P19.3 and P19.4
	lists(t, 2, 5, func(_ *rand.Rand, l []api.Report, day int) {
		for _, part := range names {
			places, err := place.Of(kinds, l, part, day)
			if err != api.OK {
				continue
			}
			own, _ := place.Roots(kinds, l, part, day)
			if slices.Contains(own, part) != slices.Contains(places, at("", "")) {
				t.Fatal("its own root:", l, part, day)
			}
			above := []string{part}
			for _, p := range places {
				if p.Into != "" {
					roots, _ := place.Roots(kinds, l, p.Into, day)
					above = append(above, roots...)
				}
			}
			for _, root := range own {
				if !slices.Contains(above, root) {
					t.Fatal("another root:", l, part, day, root)
				}
			}
			for _, into := range names {
				for _, slot := range []string{"axle", "front", "rear", "m"} {
					occupants, _ := place.Occupants(kinds, l, into, slot, day)
					if slices.Contains(occupants, part) != slices.Contains(places, at(into, slot)) {
						t.Fatal("both ways:", l, part, into, slot, day)
					}
				}
			}
		}
	})
}

func TestNoDoubt(t *testing.T) { // P19.5
	lists(t, 3, 0, func(_ *rand.Rand, l []api.Report, day int) {
		for _, part := range names {
			a, err := place.Of(kinds, l, part, day)
			b, _ := place.Occupants(kinds, l, part, "m", day)
			c, _ := place.Roots(kinds, l, part, day)
			if err == api.OK && (len(a) != 1 || len(b) != 1 || len(c) != 1) {
				t.Fatal(l, part, day, a, b, c)
			}
		}
	})
}

func TestOthers(t *testing.T) { // P19.6
	lists(t, 4, 4, func(_ *rand.Rand, l []api.Report, day int) {
		more := append(sample.Reports("scrap 1 z; ? make 2 y axle"), l...)
		for _, part := range names {
			a, err := place.Of(kinds, l, part, day)
			b, err2 := place.Of(kinds, more, part, day)
			c, _ := place.Roots(kinds, l, part, day)
			d, _ := place.Roots(kinds, more, part, day)
			if err != err2 || !slices.Equal(a, b) || !slices.Equal(c, d) {
				t.Fatal(l, part, day)
			}
		}
	})
}

func TestEvidence(t *testing.T) { // P19.7
	lists(t, 5, 6, func(r *rand.Rand, l []api.Report, day int) {
		i := r.Intn(len(l))
		fewer := slices.Clone(l)
		fewer[i] = api.Report{Options: l[i].Options[r.Intn(len(l[i].Options)):]}
		if _, err := search.First(kinds, fewer); err != api.OK {
			return
		}
		for _, part := range names {
			a, _ := place.Of(kinds, l, part, day)
			b, _ := place.Of(kinds, fewer, part, day)
			c, _ := place.Roots(kinds, l, part, day)
			d, _ := place.Roots(kinds, fewer, part, day)
			e, _ := place.Occupants(kinds, l, part, "axle", day)
			f, _ := place.Occupants(kinds, fewer, part, "axle", day)
			if some(a, b) || some(c, d) || some(e, f) {
				t.Fatal(l, i, part, day, a, b)
			}
		}
	})
}

// some reports whether a list has an element that another one does not have.
func some[T comparable](all, l []T) bool {
	return slices.ContainsFunc(l, func(e T) bool { return !slices.Contains(all, e) })
}
