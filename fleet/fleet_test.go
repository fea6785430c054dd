package fleet_test

import (
	"fmt"
	"math/rand"
	"reflect"
	"slices"
	"strconv"
	"strings"
	"testing"

	"bogie/api"
	"bogie/copies"
	"bogie/digest"
	"bogie/fleet"
	"bogie/sample"
)

var kinds = sample.Kinds()

// apply returns the state after some events, all of which must be possible.
func apply(t *testing.T, s api.State, texts ...string) api.State {
	t.Helper()
	for _, e := range sample.Events(texts...) {
		next, err := fleet.Apply(kinds, s, e)
		if err != api.OK {
			t.Fatal(e, err)
		}
		s = next
	}
	return s
}

// refuse checks that an event has an error.
func refuse(t *testing.T, s api.State, text string, want api.Errno) {
	t.Helper()
	if next, err := fleet.Apply(kinds, s, sample.Event(text)); err != want || len(next.Parts) != 0 {
		t.Error(text, err, want)
	}
}

func train(t *testing.T) api.State {
	return apply(t, api.State{}, "make 0 a axle; make 0 w wheelset; fit 0 a w axle; make 0 c coach; fit 0 w c front; make 3 x axle; make 3 y wheelset; make 3 m motor; make 3 d coach; note 4 a batch \"A\"")
}

func TestValid(t *testing.T) { // P10.1: J1
	good := func() api.State { return train(t) }
	if !fleet.Valid(kinds, good()) || !fleet.Valid(api.Catalog{}, api.State{}) || fleet.Valid(api.Catalog{}, good()) {
		t.Error("valid states")
	}
	bad := sample.Kinds()
	bad.Kinds[0].Name = ""
	if fleet.Valid(bad, api.State{}) {
		t.Error("a catalog that is not valid")
	}
	part := func(s api.State, name string) *api.Part {
		return &s.Parts[slices.IndexFunc(s.Parts, func(p api.Part) bool { return p.Name == name })]
	}
	for i, change := range []func(s api.State){
		func(s api.State) { s.Parts[0], s.Parts[1] = s.Parts[1], s.Parts[0] }, func(s api.State) { s.Parts[1].Name = s.Parts[0].Name }, func(s api.State) { s.Parts[0].Name = "" }, func(s api.State) { part(s, "y").Name = "y-" },
		func(s api.State) { part(s, "x").Kind = "bus" }, func(s api.State) { part(s, "x").Made = -1 }, func(s api.State) { part(s, "x").Since = 2 }, func(s api.State) { part(s, "x").Since = 40001 },
		func(s api.State) { part(s, "x").Life.Km = sample.In(-1, 0) }, func(s api.State) { part(s, "x").Life.Cycles = sample.In(1, 0) }, func(s api.State) { part(s, "x").Life.Damage = sample.In(0, api.MaxAmount+1) },
		func(s api.State) { part(s, "x").Props = []api.Prop{{Key: "k"}} }, func(s api.State) { part(s, "x").Props = []api.Prop{{Value: "v"}} }, func(s api.State) { part(s, "x").Props = []api.Prop{{Key: "k", Value: strings.Repeat("v", 201)}} },
		func(s api.State) { part(s, "x").Props = []api.Prop{{Key: "k", Value: "v"}, {Key: "k", Value: "w"}} }, func(s api.State) { part(s, "x").Props = []api.Prop{{Key: "l", Value: "v"}, {Key: "k", Value: "w"}} }, func(s api.State) { part(s, "x").Props = props(61) },
		func(s api.State) { part(s, "x").Into = "y" }, func(s api.State) { part(s, "x").Slot = "axle" }, func(s api.State) { part(s, "x").Into, part(s, "x").Slot = "z", "axle" }, func(s api.State) { part(s, "x").Into, part(s, "x").Slot = "y", "front" },
		func(s api.State) { part(s, "x").Into, part(s, "x").Slot = "w", "axle" }, func(s api.State) { part(s, "d").Into, part(s, "d").Slot = "c", "rear" }, func(s api.State) { part(s, "a").Scrapped = true }, func(s api.State) { part(s, "w").Scrapped = true },
		func(s api.State) { part(s, "y").Into, part(s, "y").Slot = "y", "axle" },
	} {
		s := good()
		change(s)
		if fleet.Valid(kinds, s) {
			t.Error(i)
		}
		if next, err := fleet.Apply(kinds, s, sample.Event("make 0 z axle")); err != api.ErrArg || len(next.Parts) != 0 {
			t.Error(i, err)
		}
	}
	for i, change := range []func(s api.State){
		func(s api.State) { part(s, "x").Props = props(60) }, func(s api.State) { part(s, "x").Since = 40000 }, func(s api.State) { part(s, "x").Life.Damage = sample.In(0, api.MaxAmount) },
		func(s api.State) { part(s, "x").Into, part(s, "x").Slot = "y", "axle" }, func(s api.State) { part(s, "x").Into, part(s, "x").Slot = "c", "m" }, func(s api.State) { part(s, "x").Scrapped = true },
	} {
		s := good()
		change(s)
		if !fleet.Valid(kinds, s) {
			t.Error(i)
		}
	}
}

func TestOrderOfParts(t *testing.T) { // P10.1: J1
	part := func(name string) api.Part { return api.Part{Name: name, Kind: "axle"} }
	for i, c := range []struct {
		parts []api.Part
		want  bool
	}{{[]api.Part{part("a"), part("b")}, true}, {[]api.Part{part("b"), part("a")}, false}, {[]api.Part{part("a"), part("a")}, false}, {[]api.Part{part("a"), part("b"), part("b")}, false}, {[]api.Part{part("B"), part("a")}, true}} {
		if fleet.Valid(kinds, api.State{Parts: c.parts}) != c.want {
			t.Error(i)
		}
	}
	long := part("a")
	long.Props = []api.Prop{{Key: "k", Value: strings.Repeat("v", 200)}}
	if !fleet.Valid(kinds, api.State{Parts: []api.Part{long}}) {
		t.Error("a long value")
	}
}

func props(n int) []api.Prop {
	var l []api.Prop
	for i := range n {
		l = append(l, api.Prop{Key: fmt.Sprintf("k%02d", i), Value: "v"})
	}
	return l
}

// crowd returns a state with a number of axles.
func crowd(n int) api.State {
	var s api.State
	for i := range n {
		s.Parts = append(s.Parts, api.Part{Name: fmt.Sprintf("p%06d", i), Kind: "axle"})
	}
	return s
}

func TestApplyErrors(t *testing.T) { // P10.1: J2
	s := apply(t, train(t), "make 5 o axle; scrap 5 o; make 5 u wheelset; scrap 5 u; make 5 g coach; scrap 5 g")
	for text, want := range map[string]api.Errno{
		"make 1 a bus": api.ErrTwice, "make 1 o axle": api.ErrTwice, "make 1 z bus": api.ErrKind,
		"fit 1 z y axle": api.ErrNone, "fit 1 x z axle": api.ErrNone, "fit 1 o z axle": api.ErrNone, "remove 1 z": api.ErrNone, "run 1 z 0 0 0 0 0 0": api.ErrNone, "overhaul 1 z": api.ErrNone, "note 1 z k \"v\"": api.ErrNone, "scrap 1 z": api.ErrNone,
		"fit 1 o y axle": api.ErrState, "fit 1 x u axle": api.ErrState, "fit 1 x u front": api.ErrState, "remove 1 o": api.ErrState, "run 1 o 0 0 0 0 0 0": api.ErrState, "run 1 g 0 0 0 0 0 0": api.ErrState, "overhaul 1 o": api.ErrState, "note 1 o k \"v\"": api.ErrState, "scrap 1 o": api.ErrState,
		"fit 1 d c front": api.ErrKind, "fit 1 a x axle": api.ErrKind, "fit 1 x y front": api.ErrKind, "fit 1 m y axle": api.ErrKind, "run 1 a 0 0 0 0 0 0": api.ErrKind, "run 1 x 0 0 0 0 0 0": api.ErrKind,
		"fit 1 a y axle": api.ErrState, "fit 1 a w axle": api.ErrState, "remove 1 x": api.ErrState, "remove 1 c": api.ErrState, "scrap 1 a": api.ErrState, "scrap 1 w": api.ErrState, "scrap 1 c": api.ErrState,
		"fit 1 x w axle": api.ErrFull, "fit 1 y c front": api.ErrFull, "fit 1 c d front": api.ErrKind,
	} {
		refuse(t, s, text, want)
	}
	for _, e := range []api.Event{{}, {Op: api.OpMake, Part: "z"}, {Op: api.OpScrap, Day: -1, Part: "x"}} {
		if next, err := fleet.Apply(kinds, s, e); err != api.ErrArg || len(next.Parts) != 0 {
			t.Error(e, err)
		}
	}
	if _, err := fleet.Apply(api.Catalog{}, api.State{}, sample.Event("make 1 a axle")); err != api.ErrKind {
		t.Error(err)
	}
}

func TestApplyLimits(t *testing.T) { // P10.1: J2
	s := crowd(api.MaxParts)
	refuse(t, s, "make 1 z axle", api.ErrLimit)
	refuse(t, s, "make 1 p000007 axle", api.ErrTwice)
	refuse(t, s, "make 1 z bus", api.ErrKind)
	s.Parts = s.Parts[1:]
	s = apply(t, s, "make 1 z axle")
	if len(s.Parts) != api.MaxParts {
		t.Error(len(s.Parts))
	}
	refuse(t, crowd(api.MaxParts+1), "scrap 1 p000000", api.ErrArg)
	s = train(t)
	s.Parts[0].Props = props(60)
	refuse(t, s, "note 1 a new \"v\"", api.ErrLimit)
	s = apply(t, s, "note 1 a k07 \"new\"")
	if p := s.Parts[0]; len(p.Props) != 60 || p.Props[7].Value != "new" {
		t.Error(p)
	}
	s.Parts[0].Props = props(59)
	s = apply(t, s, "note 1 a a \"first\"")
	if p := s.Parts[0]; len(p.Props) != 60 || p.Props[0].Key != "a" || p.Props[1].Key != "k00" {
		t.Error(p)
	}
}

func find(t *testing.T, s api.State, part string) api.Part {
	t.Helper()
	p, ok := fleet.Find(s, part)
	if !ok {
		t.Fatal("not there:", part)
	}
	return p
}

func TestAfter(t *testing.T) { // P10.1: J2
	s := train(t)
	s.Parts[0].Life = api.Life{Km: sample.In(1, 2), Cycles: sample.In(3, 4), Damage: sample.In(5, 6)}
	s.Parts[0].Since = 7
	before := find(t, s, "a")
	s = apply(t, s, "run 8 c 5 5 5 5 5 5")
	if !reflect.DeepEqual(find(t, s, "a"), before) {
		t.Error("a run changes a state")
	}
	over := find(t, apply(t, s, "overhaul 9 a"), "a")
	if over.Since != 9 || over.Life != (api.Life{}) || over.Into != "w" || over.Made != 0 {
		t.Error(over)
	}
	if early := find(t, apply(t, s, "overhaul 5 a"), "a"); early.Since != 7 || early.Life != (api.Life{}) {
		t.Error(early)
	}
	if z := find(t, apply(t, s, "make 30 z axle"), "z"); !reflect.DeepEqual(z, api.Part{Name: "z", Kind: "axle", Made: 30, Since: 30}) {
		t.Error(z)
	}
	if a := find(t, apply(t, s, "remove 8 a"), "a"); a.Into != "" || a.Slot != "" {
		t.Error(a)
	}
	if x := find(t, apply(t, s, "fit 8 x y axle"), "x"); x.Into != "y" || x.Slot != "axle" {
		t.Error(x)
	}
	if x := find(t, apply(t, s, "scrap 8 x"), "x"); !x.Scrapped {
		t.Error(x)
	}
	if a := find(t, apply(t, s, "note 8 a batch \"B\"; note 8 a age \"7\""), "a"); !slices.Equal(a.Props, []api.Prop{{Key: "age", Value: "7"}, {Key: "batch", Value: "B"}}) {
		t.Error(a)
	}
}

func TestFind(t *testing.T) { // P10.1: J3
	s := api.State{Parts: []api.Part{{Name: "b", Made: 1, Props: []api.Prop{{Key: "k", Value: "v"}}}, {Name: "a"}, {Name: "b", Made: 2}}}
	p, ok := fleet.Find(s, "b")
	if !ok || p.Made != 1 {
		t.Error(p, ok)
	}
	p.Props[0].Value = "changed"
	if s.Parts[0].Props[0].Value != "v" {
		t.Error("shared memory")
	}
	if p, ok := fleet.Find(s, "c"); ok || !reflect.DeepEqual(p, api.Part{}) {
		t.Error(p, ok)
	}
}

func TestRoot(t *testing.T) { // P10.1: J4
	s := train(t)
	for part, want := range map[string]string{"a": "c", "w": "c", "c": "c", "x": "x", "z": "", "": ""} {
		if got := fleet.Root(s, part); got != want {
			t.Error(part, got)
		}
	}
	odd := api.State{Parts: []api.Part{{Name: "a", Into: "b"}, {Name: "b", Into: "a"}, {Name: "c", Into: "a"}, {Name: "d", Into: "d"}, {Name: "e", Into: "nowhere"}, {Name: "f", Into: "e"}, {Name: "g", Slot: "s"}, {Name: "h", Into: "g"}, {Name: "g", Into: "a"}, {Name: "i", Into: "h"}, {Name: ""}, {Name: "h", Into: "e"}}}
	for part, want := range map[string]string{"a": "", "b": "", "c": "", "d": "", "e": "", "f": "", "g": "g", "h": "g", "i": "g"} {
		if got := fleet.Root(odd, part); got != want {
			t.Error(part, got)
		}
	}
	for part, want := range map[string][]string{"a": {"b", "c"}, "b": {"a", "c"}, "d": nil, "e": {"f"}, "g": {"h", "i"}, "nowhere": nil, "z": nil, "": nil} {
		if got := fleet.Inside(odd, part); !slices.Equal(got, want) {
			t.Error(part, got)
		}
	}
}

func TestInside(t *testing.T) { // P10.1: J4
	for part, want := range map[string][]string{"c": {"a", "w"}, "w": {"a"}, "a": nil, "d": nil, "z": nil} {
		if got := fleet.Inside(train(t), part); !slices.Equal(got, want) {
			t.Error(part, got)
		}
	}
}

func TestSameAndDigest(t *testing.T) { // P10.1: J5, and P10.8
	base := train(t)
	base.Parts[0].Life.Km = sample.In(-5, 7)
	seen := map[string]bool{fleet.Digest(base): true}
	changes := []func(p *api.Part){
		func(p *api.Part) { p.Name = "b" }, func(p *api.Part) { p.Kind = "b" }, func(p *api.Part) { p.Into = "b" }, func(p *api.Part) { p.Slot = "b" }, func(p *api.Part) { p.Made = 9 }, func(p *api.Part) { p.Since = 9 },
		func(p *api.Part) { p.Scrapped = true }, func(p *api.Part) { p.Props = nil }, func(p *api.Part) { p.Props[0].Key = "z" }, func(p *api.Part) { p.Props[0].Value = "z" },
		func(p *api.Part) { p.Life.Km.Low = 1 }, func(p *api.Part) { p.Life.Km.High = 1 }, func(p *api.Part) { p.Life.Cycles.Low = 1 }, func(p *api.Part) { p.Life.Cycles.High = 1 }, func(p *api.Part) { p.Life.Damage.Low = 1 }, func(p *api.Part) { p.Life.Damage.High = 1 },
	}
	for i, change := range changes {
		other := copies.State(base)
		change(&other.Parts[0])
		if fleet.Same(base, other) || fleet.Same(other, base) || seen[fleet.Digest(other)] {
			t.Error(i)
		}
		seen[fleet.Digest(other)] = true
	}
	short := api.State{Parts: base.Parts[1:]}
	if fleet.Same(base, short) || fleet.Same(short, base) || !fleet.Same(base, copies.State(base)) || !fleet.Same(api.State{}, api.State{Parts: []api.Part{}}) {
		t.Error("Same")
	}
	if !fleet.Same(api.State{Parts: []api.Part{{}}}, api.State{Parts: []api.Part{{Props: []api.Prop{}}}}) {
		t.Error("an empty list is not a nil one")
	}
	s := api.State{Parts: []api.Part{{Name: "n", Kind: "k", Into: "i", Slot: "s", Made: 1, Since: -2, Scrapped: true, Props: []api.Prop{{Key: "a", Value: "b"}, {Key: "c", Value: "d"}}, Life: api.Life{Km: sample.In(1, 2), Cycles: sample.In(3, 4), Damage: sample.In(5, 6)}}, {}}}
	if got := fleet.Digest(s); got != digest.List(strings.Split("2,n,k,i,s,1,-2,1,2,a,b,c,d,1,2,3,4,5,6,,,,,0,0,0,0,0,0,0,0,0,0", ",")) {
		t.Error(got)
	}
	if fleet.Digest(api.State{}) != digest.List([]string{"0"}) {
		t.Error("the empty state")
	}
}

// walk calls a function with random states, and an event that is possible in each of them.
func walk(t *testing.T, check func(s api.State, e api.Event, next api.State)) {
	t.Helper()
	r := rand.New(rand.NewSource(1))
	for range 60 {
		s := api.State{}
		for _, e := range sample.RandomEvents(r.Intn, 40) {
			before := copies.State(s)
			next, err := fleet.Apply(kinds, s, e)
			again, err2 := fleet.Apply(kinds, s, e)
			if !fleet.Same(before, s) || err != err2 || !fleet.Same(next, again) { // P1 and P3
				t.Fatal("changed:", e)
			}
			if err == api.OK {
				check(s, e, next)
				s = next
			}
		}
	}
}

func TestValidStates(t *testing.T) { // P10.2
	if !fleet.Valid(kinds, api.State{}) {
		t.Error("the empty state")
	}
	walk(t, func(s api.State, e api.Event, next api.State) {
		if !fleet.Valid(kinds, next) {
			t.Fatal(e, next)
		}
	})
}

func TestWhatChanges(t *testing.T) { // P10.3
	walk(t, func(s api.State, e api.Event, next api.State) {
		for _, p := range s.Parts {
			q := find(t, next, p.Name)
			if p.Name == e.Part {
				switch e.Op {
				case api.OpFit, api.OpRemove:
					q.Into, q.Slot = p.Into, p.Slot
				case api.OpOverhaul:
					q.Since, q.Life = p.Since, p.Life
				case api.OpNote:
					q.Props = p.Props
				case api.OpScrap:
					q.Scrapped = false
				}
			}
			if !fleet.Same(api.State{Parts: []api.Part{p}}, api.State{Parts: []api.Part{q}}) {
				t.Fatal(e, p, q)
			}
		}
		if more := len(next.Parts) - len(s.Parts); more != 0 && e.Op != api.OpMake || more > 1 {
			t.Fatal(e)
		}
	})
}

func TestBack(t *testing.T) { // P10.4
	walk(t, func(s api.State, e api.Event, next api.State) {
		switch e.Op {
		case api.OpFit:
			if back := apply(t, next, "remove 9 "+e.Part); !fleet.Same(back, s) {
				t.Fatal(e)
			}
		case api.OpRemove:
			p := find(t, s, e.Part)
			if back := apply(t, next, "fit 9 "+p.Name+" "+p.Into+" "+p.Slot); !fleet.Same(back, s) {
				t.Fatal(e)
			}
		}
	})
}

func TestTrees(t *testing.T) { // P10.5
	walk(t, func(s api.State, e api.Event, next api.State) {
		for _, p := range next.Parts {
			root := find(t, next, fleet.Root(next, p.Name))
			if root.Into != "" {
				t.Fatal(root)
			}
			way := map[string]bool{}
			for q := p; q.Into != ""; q = find(t, next, q.Into) {
				way[q.Into] = true
			}
			for _, other := range next.Parts {
				if slices.Contains(fleet.Inside(next, other.Name), p.Name) != way[other.Name] {
					t.Fatal(p, other)
				}
			}
		}
	})
}

func TestDifferentParts(t *testing.T) { // P10.6
	r := rand.New(rand.NewSource(2))
	both := 0
	walk(t, func(s api.State, e api.Event, next api.State) {
		for range 3 {
			other := sample.RandomEvent(r.Intn, 3)
			if names := []string{e.Part, e.Into}; slices.Contains(names, other.Part) || other.Into != "" && slices.Contains(names, other.Into) {
				continue
			}
			first, err := fleet.Apply(kinds, s, other)
			if err != api.OK {
				continue
			}
			both++
			one, err1 := fleet.Apply(kinds, next, other)
			two, err2 := fleet.Apply(kinds, first, e)
			if err1 != api.OK || err2 != api.OK || !fleet.Same(one, two) {
				t.Fatal(e, other, err1, err2)
			}
		}
	})
	if both < 100 {
		t.Error("too few pairs:", both)
	}
}

func TestSlots(t *testing.T) { // P10.7
	walk(t, func(s api.State, e api.Event, next api.State) {
		if e.Op != api.OpFit {
			return
		}
		refuse(t, next, "scrap 9 "+e.Into, api.ErrState)
		fresh := apply(t, next, "make 9 new "+find(t, s, e.Part).Kind)
		refuse(t, fresh, "fit 9 new "+e.Into+" "+e.Slot, api.ErrFull)
	})
}

func BenchmarkApply(b *testing.B) {
	s := api.State{}
	for i := range 30 {
		s, _ = fleet.Apply(kinds, s, sample.Event("make 1 p"+strconv.Itoa(i)+" axle"))
	}
	e := sample.Event("note 1 p3 k \"v\"")
	for range b.N {
		fleet.Apply(kinds, s, e)
	}
}
