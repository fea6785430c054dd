// Package sample has short ways to write what tests begin with. Its functions panic if a text is wrong.
package sample

import (
	"strconv"
	"strings"

	"bogie/api"
	"bogie/catalog"
	"bogie/event"
	"bogie/formula"
	"bogie/rule"
)

func must[T any](v T, err api.Errno, text string) T {
	if err != api.OK {
		panic("error " + strconv.Itoa(int(err)) + " in " + text)
	}
	return v
}

// Catalog returns the catalog of a text.
func Catalog(text string) api.Catalog {
	c, err, _ := catalog.Parse(text)
	return must(c, err, text)
}

// Kinds returns a catalog in which coaches have wheelsets, with an axle each, and a motor, which may be an axle.
func Kinds() api.Catalog {
	return Catalog("kind axle; kind motor; kind wheelset (axle: axle); vehicle coach (front: wheelset; rear: wheelset; m: motor + axle);")
}

// Setup returns a setup with these kinds, and a damage of twice the kilometres.
func Setup() api.Setup {
	f, err, _ := formula.Parse("km * 2")
	return api.Setup{Catalog: Kinds(), Damage: must(f, err, "km * 2")}
}

// Event returns the event of a text.
func Event(text string) api.Event {
	e, err := event.Parse(strings.TrimSpace(text))
	return must(e, err, text)
}

// each returns what a function makes of the parts of texts, between which there are semicolons.
func each[T any](texts []string, of func(part string) T) []T {
	var l []T
	for _, text := range texts {
		for part := range strings.SplitSeq(text, ";") {
			if strings.TrimSpace(part) != "" {
				l = append(l, of(part))
			}
		}
	}
	return l
}

// Events returns the events of texts, each of which may have several ones, with semicolons between them.
func Events(texts ...string) []api.Event { return each(texts, Event) }

// Report returns the report with the events of a text, between which there is `|`; it is doubtful if the text begins with `?`.
func Report(text string) api.Report {
	rest, doubtful := strings.CutPrefix(strings.TrimSpace(text), "?")
	r := api.Report{Doubtful: doubtful}
	for part := range strings.SplitSeq(rest, "|") {
		r.Options = append(r.Options, Event(part))
	}
	return r
}

// Reports returns the reports of texts, each of which may have several ones, with semicolons between them.
func Reports(texts ...string) []api.Report { return each(texts, Report) }

// Rule returns the rule of a text.
func Rule(text string) api.Rule {
	r, err, _ := rule.Parse(text)
	return must(r, err, text)
}

// Rules returns the rules of texts.
func Rules(texts ...string) []api.Rule {
	var l []api.Rule
	for _, text := range texts {
		l = append(l, Rule(text))
	}
	return l
}

// In returns an interval.
func In(low, high int) api.Interval { return api.Interval{Low: low, High: high} }
