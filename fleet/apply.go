package fleet

import (
	"slices"
	"strings"

	"bogie/api"
	"bogie/catalog"
	"bogie/copies"
	"bogie/event"
)

// Apply returns the state after an event.
func Apply(c api.Catalog, s api.State, e api.Event) (api.State, api.Errno) {
	if !Valid(c, s) || !event.Valid(e) {
		return api.State{}, api.ErrArg
	}
	err := hindrance(c, s, e)
	if e.Op == api.OpMake {
		err = makeHindrance(c, s, e)
	}
	if err != api.OK {
		return api.State{}, err
	}
	return after(s, e), api.OK
}

// makeHindrance returns why a part cannot be made.
func makeHindrance(c api.Catalog, s api.State, e api.Event) api.Errno {
	_, there := position(s, e.Part)
	_, known := catalog.Find(c, e.Kind)
	switch {
	case there:
		return api.ErrTwice
	case !known:
		return api.ErrKind
	case len(s.Parts) >= api.MaxParts:
		return api.ErrLimit
	}
	return api.OK
}

// hindrance returns why an event is not possible for a part that must be there.
func hindrance(c api.Catalog, s api.State, e api.Event) api.Errno {
	at, ok := position(s, e.Part)
	if !ok {
		return api.ErrNone
	}
	p, host := s.Parts[at], api.Part{}
	if e.Op == api.OpFit {
		into, ok := position(s, e.Into)
		if !ok {
			return api.ErrNone
		}
		host = s.Parts[into]
	}
	some := func(is func(q api.Part) bool) bool { return slices.ContainsFunc(s.Parts, is) }
	fitted := p.Into != ""
	full := false
	switch e.Op {
	case api.OpFit: // that slots take no vehicles is checked in valid catalogs
		ok = catalog.Takes(c, host.Kind, e.Slot, p.Kind)
		full = some(func(q api.Part) bool { return q.Into == e.Into && q.Slot == e.Slot })
	case api.OpRemove:
		fitted = !fitted
	case api.OpRun:
		k, _ := catalog.Find(c, p.Kind)
		ok, fitted = k.Vehicle, false
	case api.OpScrap:
		fitted = fitted || some(func(q api.Part) bool { return q.Into == e.Part })
	case api.OpOverhaul, api.OpNote:
		fitted = false
	}
	switch {
	case p.Scrapped || host.Scrapped:
		return api.ErrState
	case !ok:
		return api.ErrKind
	case fitted:
		return api.ErrState
	case full:
		return api.ErrFull
	case e.Op == api.OpNote && len(noted(p, e).Props) > api.MaxNodes:
		return api.ErrLimit
	}
	return api.OK
}

// after returns the state after an event that is possible.
func after(s api.State, e api.Event) api.State {
	s = copies.State(s)
	if e.Op == api.OpMake {
		made := api.Part{Name: e.Part, Kind: e.Kind, Made: e.Day, Since: e.Day}
		s.Parts = inserted(s.Parts, made, func(a, b api.Part) int { return strings.Compare(a.Name, b.Name) })
		return s
	}
	at, _ := position(s, e.Part)
	p := &s.Parts[at]
	switch e.Op {
	case api.OpFit, api.OpRemove: // an OpRemove has neither
		p.Into, p.Slot = e.Into, e.Slot
	case api.OpOverhaul:
		p.Since, p.Life = max(p.Since, e.Day), api.Life{}
	case api.OpNote:
		*p = noted(*p, e)
	case api.OpScrap:
		p.Scrapped = true
	}
	return s
}

// noted returns a part with the property of an OpNote.
func noted(p api.Part, e api.Event) api.Part {
	p.Props = inserted(p.Props, api.Prop{Key: e.Key, Value: e.Value}, func(a, b api.Prop) int { return strings.Compare(a.Key, b.Key) })
	return p
}

// inserted returns a list in order with a further element, which replaces an equal one.
func inserted[T any](l []T, e T, compare func(a, b T) int) []T {
	at, found := slices.BinarySearchFunc(l, e, compare)
	more := make([]T, 0, len(l)+1)
	more = append(append(more, l[:at]...), e)
	if found {
		at++
	}
	return append(more, l[at:]...)
}
