package copies_test

import (
	"reflect"
	"testing"

	"bogie/api"
	"bogie/copies"
)

// separate checks that a copy is equal, and stays as it is when the original is changed.
func separate[T any](t *testing.T, original func() T, copied func(T) T, change func(T)) {
	t.Helper()
	o := original()
	c := copied(o)
	if !reflect.DeepEqual(o, c) {
		t.Error("not equal:", o, c)
	}
	change(o)
	if reflect.DeepEqual(o, c) || !reflect.DeepEqual(c, original()) {
		t.Error("shared:", o, c)
	}
}

func TestKind(t *testing.T) {
	original := func() api.Kind {
		return api.Kind{Name: "k", Slots: []api.Slot{{Name: "s", Kinds: []string{"a", "b"}, Normal: 1}}}
	}
	separate(t, original, copies.Kind, func(k api.Kind) { k.Slots[0].Name = "x" })
	separate(t, original, copies.Kind, func(k api.Kind) { k.Slots[0].Kinds[1] = "x" })
}

func TestState(t *testing.T) {
	original := func() api.State {
		return api.State{Parts: []api.Part{{Name: "p", Props: []api.Prop{{Key: "k", Value: "v"}}}}}
	}
	separate(t, original, copies.State, func(s api.State) { s.Parts[0].Name = "x" })
	separate(t, original, copies.State, func(s api.State) { s.Parts[0].Props[0].Value = "x" })
	separate(t, func() api.Part { return original().Parts[0] }, copies.Part, func(p api.Part) { p.Props[0].Key = "x" })
}

func TestRule(t *testing.T) {
	original := func() api.Rule {
		return api.Rule{Name: "r", Cond: api.Expr{Op: api.ExprNot, Kids: []api.Expr{{Op: api.ExprNot, Kids: []api.Expr{{Op: api.ExprTrue}}}}}}
	}
	separate(t, original, copies.Rule, func(r api.Rule) { r.Cond.Kids[0].Op = 7 })
	separate(t, original, copies.Rule, func(r api.Rule) { r.Cond.Kids[0].Kids[0].Op = 7 })
}

func TestRecord(t *testing.T) {
	original := func() api.Record {
		return api.Record{Members: []int{1}, Report: api.Report{Options: []api.Event{{Op: 1}}}, Amendment: api.Amendment{Rule: api.Rule{Cond: api.Expr{Kids: []api.Expr{{Op: 1}}}}}, Seal: api.Seal{Sig: []string{"a"}, Path: []string{"b"}}}
	}
	for _, change := range []func(r api.Record){func(r api.Record) { r.Members[0] = 2 }, func(r api.Record) { r.Report.Options[0].Op = 2 }, func(r api.Record) { r.Amendment.Rule.Cond.Kids[0].Op = 2 }, func(r api.Record) { r.Seal.Sig[0] = "x" }, func(r api.Record) { r.Seal.Path[0] = "x" }} {
		separate(t, original, copies.Record, change)
		separate(t, func() []api.Record { return []api.Record{original()} }, copies.Records, func(l []api.Record) { change(l[0]) })
	}
}

func TestWorld(t *testing.T) {
	original := func() api.World {
		return api.World{Setup: api.Setup{Catalog: api.Catalog{Kinds: []api.Kind{{Slots: []api.Slot{{Name: "s"}}}}}, Damage: api.Formula{Kids: []api.Formula{{Op: 1}}}}, Keys: []string{"a"}, Subs: []api.Sub{{To: 1}}, Duties: []api.Duty{{Within: 1}}, Warranties: []api.Warranty{{Days: 1}}}
	}
	for _, change := range []func(w api.World){func(w api.World) { w.Setup.Catalog.Kinds[0].Slots[0].Name = "x" }, func(w api.World) { w.Setup.Damage.Kids[0].Op = 2 }, func(w api.World) { w.Keys[0] = "x" }, func(w api.World) { w.Subs[0].To = 2 }, func(w api.World) { w.Duties[0].Within = 2 }, func(w api.World) { w.Warranties[0].Days = 2 }} {
		separate(t, original, copies.World, change)
	}
}
