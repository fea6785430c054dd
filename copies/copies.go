// Package copies has deep copies of what package api has: a copy shares no memory with the original.
package copies

import (
	"slices"

	"bogie/api"
)

// list returns a copy of a list, each element of which is copied by a function.
func list[T any](l []T, one func(T) T) []T {
	if l == nil {
		return nil
	}
	c := make([]T, 0, len(l))
	for _, e := range l {
		c = append(c, one(e))
	}
	return c
}

// Kind returns a copy of a kind.
func Kind(k api.Kind) api.Kind {
	k.Slots = list(k.Slots, func(s api.Slot) api.Slot {
		s.Kinds = slices.Clone(s.Kinds)
		return s
	})
	return k
}

// Part returns a copy of a part.
func Part(p api.Part) api.Part {
	p.Props = slices.Clone(p.Props)
	return p
}

// State returns a copy of a state. (States are copied often, and parts are large: they are copied all at once.)
func State(s api.State) api.State {
	parts := slices.Clone(s.Parts)
	for i := range parts {
		parts[i].Props = slices.Clone(parts[i].Props)
	}
	return api.State{Parts: parts}
}

// Expr returns a copy of a condition.
func Expr(e api.Expr) api.Expr {
	e.Kids = list(e.Kids, Expr)
	return e
}

// Rule returns a copy of a rule.
func Rule(r api.Rule) api.Rule {
	r.Cond = Expr(r.Cond)
	return r
}

// Report returns a copy of a report.
func Report(r api.Report) api.Report {
	r.Options = slices.Clone(r.Options)
	return r
}

// Record returns a copy of a record.
func Record(r api.Record) api.Record {
	r.Members = slices.Clone(r.Members)
	r.Report = Report(r.Report)
	r.Amendment.Rule = Rule(r.Amendment.Rule)
	r.Seal.Sig, r.Seal.Path = slices.Clone(r.Seal.Sig), slices.Clone(r.Seal.Path)
	return r
}

// Records returns a copy of a list of records.
func Records(l []api.Record) []api.Record { return list(l, Record) }

// Formula returns a copy of a formula.
func Formula(f api.Formula) api.Formula {
	f.Kids = list(f.Kids, Formula)
	return f
}

// World returns a copy of a world.
func World(w api.World) api.World {
	w.Setup.Catalog.Kinds = list(w.Setup.Catalog.Kinds, Kind)
	w.Setup.Damage = Formula(w.Setup.Damage)
	w.Keys, w.Subs = slices.Clone(w.Keys), slices.Clone(w.Subs)
	w.Duties, w.Warranties = slices.Clone(w.Duties), slices.Clone(w.Warranties)
	return w
}
