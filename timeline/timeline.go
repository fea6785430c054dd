// Package timeline finds histories of reports: it decides doubtful reports in the order of their days, so that what is not possible shows early.
package timeline

import (
	"cmp"
	"slices"
	"strconv"

	"bogie/api"
	"bogie/event"
	"bogie/fleet"
	"bogie/joined"
	"bogie/link"
	"bogie/report"
)

// Open is the choice of a report that may be decided in any way.
const Open = -1

// Timeline is valid reports, ready to be searched.
type Timeline struct {
	catalog    api.Catalog
	reports    []api.Report
	component  []int // of each report
	components []component
}

// component is reports that can be decided apart from all others.
type component struct {
	sure     []told // events of the reports with one choice, in their order
	doubtful []int  // the other reports, by their first days (so that all events before the first day of the next one are known)
}

// told is an event with the index of its report.
type told struct {
	api.Event
	report int
}

// New returns the timeline of valid reports.
func New(c api.Catalog, l []api.Report) *Timeline {
	t := &Timeline{catalog: c, reports: l, component: make([]int, len(l))}
	for n, set := range apart(l) {
		var own component
		for _, i := range set {
			t.component[i] = n
			if report.Choices(l[i]) > 1 {
				own.doubtful = append(own.doubtful, i)
			} else {
				own.sure = append(own.sure, told{l[i].Options[0], i})
			}
		}
		slices.SortStableFunc(own.doubtful, func(i, j int) int { return cmp.Compare(firstDay(l[i]), firstDay(l[j])) })
		slices.SortStableFunc(own.sure, before)
		t.components = append(t.components, own)
	}
	return t
}

// apart returns sets of reports that do not concern each other: the components, unless there could be too many parts in all.
func apart(l []api.Report) [][]int {
	if len(l) <= api.MaxParts {
		return link.Components(l)
	}
	all := make([]int, len(l))
	for i := range all {
		all[i] = i
	}
	return [][]int{all}
}

func firstDay(r api.Report) int {
	day := r.Options[0].Day
	for _, e := range r.Options {
		day = min(day, e.Day)
	}
	return day
}

// before compares events as they stand in a course.
func before(a, b told) int { return cmp.Or(cmp.Compare(a.Day, b.Day), cmp.Compare(a.report, b.report)) }

// Find returns a history with some choices, some of which may be open; false if there is none.
func (t *Timeline) Find(choice []int) ([]int, bool) {
	found := slices.Clone(choice)
	for n := range t.components {
		if !t.decide(n, choice, found) {
			return nil, false
		}
	}
	return found, true
}

// Change returns a history like another one, in which only the component of a report is decided anew, for some choices; false if there is none.
func (t *Timeline) Change(history, choice []int, report int) ([]int, bool) {
	found := slices.Clone(history)
	if !t.decide(t.component[report], choice, found) {
		return nil, false
	}
	return found, true
}

// decide puts a history of a component, with some choices, into a list; false if there is none.
func (t *Timeline) decide(n int, choice, found []int) bool {
	for _, e := range t.components[n].sure {
		found[e.report] = 0
	}
	s := &search{Timeline: t, component: t.components[n], choice: choice, found: found, dead: map[string]bool{}}
	return s.from(0, moment{sure: t.components[n].sure})
}

// search looks for a history of a component.
type search struct {
	*Timeline
	component
	choice, found []int
	dead          map[string]bool // moments, by their keys, from which there is no history
}

// moment is the state before a day, and the events from then on that are known: sure ones, and those of decided reports.
type moment struct {
	state   api.State
	sure    []told
	decided []told
}

// from decides the doubtful reports from one on, and reports whether a history was found.
func (s *search) from(next int, m moment) bool {
	if next == len(s.doubtful) {
		_, ok := s.pass(m, told{api.Event{Day: api.MaxDay + 1}, 0})
		return ok
	}
	i := s.doubtful[next]
	m, ok := s.pass(m, told{api.Event{Day: firstDay(s.reports[i])}, i})
	if !ok {
		return false
	}
	key := m.key(next)
	if s.dead[key] {
		return false
	}
	for k := range report.Choices(s.reports[i]) {
		if s.choice[i] != Open && s.choice[i] != k {
			continue
		}
		s.found[i] = k
		after := m
		if k < len(s.reports[i].Options) {
			after.decided = append(slices.Clone(m.decided), told{s.reports[i].Options[k], i})
			slices.SortFunc(after.decided, before)
		}
		if s.from(next+1, after) {
			return true
		}
	}
	s.dead[key] = true
	return false
}

// key returns all on which it depends whether later events are possible: uses, days and values are not among it.
func (m moment) key(next int) string {
	l := []string{strconv.Itoa(next)}
	for _, e := range m.decided {
		text, _ := event.Text(e.Event)
		l = append(l, strconv.Itoa(e.report), text)
	}
	for _, p := range m.state.Parts {
		l = append(l, p.Name, p.Kind, p.Into, p.Slot, strconv.FormatBool(p.Scrapped), strconv.Itoa(len(p.Props)))
		for _, q := range p.Props {
			l = append(l, q.Key)
		}
	}
	return joined.Text(l...)
}

// pass lets all known events before another one happen; false if one of them is not possible.
func (s *search) pass(m moment, end told) (moment, bool) {
	for {
		l := &m.sure
		if len(m.sure) == 0 || len(m.decided) > 0 && before(m.decided[0], m.sure[0]) < 0 {
			l = &m.decided
		}
		if len(*l) == 0 || before((*l)[0], end) >= 0 {
			return m, true
		}
		next, err := fleet.Apply(s.catalog, m.state, (*l)[0].Event)
		if err != api.OK {
			return m, false
		}
		m.state, *l = next, (*l)[1:]
	}
}
