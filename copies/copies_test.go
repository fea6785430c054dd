package copies_test

import (
	"reflect"
	"testing"

	"bogie/api"
	"bogie/copies"
)

// separate checks that a copy is equal, and stays as it is when the original is changed.
func separate[T any](t *testing.T, original func() T, copied func(T) T, change func(T)) {
	t.Helper()
	o := original()
	c := copied(o)
	if !reflect.DeepEqual(o, c) {
		t.Error("not equal:", o, c)
	}
	change(o)
	if reflect.DeepEqual(o, c) || !reflect.DeepEqual(c, original()) {
		t.Error("shared:", o, c)
	}
}

func TestKind(t *testing.T) {
	original := func() api.Kind {
		return api.Kind{Name: "k", Slots: []api.Slot{{Name: "s", Kinds: []string{"a", "b"}, Normal: 1}}}
	}
	separate(t, original, copies.Kind, func(k api.Kind) { k.Slots[0].Name = "x" })
	separate(t, original, copies.Kind, func(k api.Kind) { k.Slots[0].Kinds[1] = "x" })
}

func TestState(t *testing.T) {
	original := func() api.State {
		return api.State{Parts: []api.Part{{Name: "p", Props: []api.Prop{{Key: "k", Value: "v"}}}}}
	}
	separate(t, original, copies.State, func(s api.State) { s.Parts[0].Name = "x" })
	separate(t, original, copies.State, func(s api.State) { s.Parts[0].Props[0].Value = "x" })
	separate(t, func() api.Part { return original().Parts[0] }, copies.Part, func(p api.Part) { p.Props[0].Key = "x" })
}

func TestRule(t *testing.T) {
	original := func() api.Rule {
		return api.Rule{Name: "r", Cond: api.Expr{Op: api.ExprNot, Kids: []api.Expr{{Op: api.ExprNot, Kids: []api.Expr{{Op: api.ExprTrue}}}}}}
	}
	separate(t, original, copies.Rule, func(r api.Rule) { r.Cond.Kids[0].Op = 7 })
	separate(t, original, copies.Rule, func(r api.Rule) { r.Cond.Kids[0].Kids[0].Op = 7 })
}
