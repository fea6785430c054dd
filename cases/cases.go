// Package cases has what reports of a component allow: all of their histories, if these are not too many.
package cases

import (
	"slices"

	"bogie/api"
	"bogie/life"
	"bogie/link"
	"bogie/report"
	"bogie/search"
)

// Picked returns the elements of a list with some indices.
func Picked[T any](l []T, indices []int) []T {
	var picked []T
	for _, i := range indices {
		picked = append(picked, l[i])
	}
	return picked
}

// About returns the reports of the component that mentions a part, in order; none if there is no such component.
func About(l []api.Report, part string) []api.Report { return Picked(l, link.Of(l, part)) }

// IsSetup reports whether a setup is valid.
func IsSetup(x api.Setup) bool {
	_, _, err := life.Run(x, nil, 0)
	return err == api.OK
}

// AreValid reports whether all reports are valid.
func AreValid(l []api.Report) bool {
	for _, r := range l {
		if !report.Valid(r) {
			return false
		}
	}
	return true
}

// Made returns the parts that may be made as one of some kinds, each once, in increasing order. (The reports may be any ones.)
func Made(l []api.Report, of func(kind string) bool) []string {
	var parts []string
	for _, r := range l {
		for _, e := range r.Options {
			if e.Op == api.OpMake && of(e.Kind) {
				parts = append(parts, e.Part)
			}
		}
	}
	slices.Sort(parts)
	return slices.Compact(parts)
}

// Histories returns all histories of reports. Errors, with none: ErrArg if the catalog or a report is not valid; ErrLimit if too many reports are doubtful, or there are too many histories; ErrDoubt if there is none.
func Histories(c api.Catalog, l []api.Report) ([][]int, api.Errno) {
	all, err := search.All(c, l, api.MaxSteps)
	if len(all) == api.MaxSteps {
		return nil, api.ErrLimit
	}
	return all, err
}

// Events returns the events that each history picks.
func Events(l []api.Report, histories [][]int) [][]api.Event {
	var all [][]api.Event
	for _, h := range histories {
		events, _ := report.Picked(l, h)
		all = append(all, events)
	}
	return all
}
