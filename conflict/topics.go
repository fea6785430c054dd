package conflict

import (
	"maps"
	"slices"
	"strconv"

	"bogie/api"
	"bogie/joined"
)

// topic is something of which a case says one of several things; the number of a case, divided by step, modulo number, is what it says.
type topic struct{ step, number int }

func (t topic) said(at int) int { return at / t.step % t.number }

// topics is what cases are about.
type topics struct {
	numbers map[string][]int    // by currencies: what lives are compared with; a case says how many of them are less than the life
	texts   map[string][]string // by properties: their values; a case says one of them, another one, or nothing
	wholes  map[string]bool     // what holds, or does not, as a whole
	at      map[string]topic    // by their keys
}

func newTopics() *topics {
	return &topics{numbers: map[string][]int{}, texts: map[string][]string{}, wholes: map[string]bool{}, at: map[string]topic{}}
}

// key returns the key of what a condition is about; that of wholes is different for different ones.
func key(e api.Expr) string {
	switch e.Op {
	case api.ExprLimit, api.ExprOver:
		return "number " + e.Name
	case api.ExprIs, api.ExprHas:
		return "text " + e.Name
	}
	return "whole " + whole(e)
}

func whole(e api.Expr) string {
	l := []string{strconv.Itoa(e.Op), e.Name, e.Value, strconv.Itoa(e.N), strconv.Itoa(e.Extra)}
	for _, kid := range e.Kids {
		l = append(l, whole(kid))
	}
	return joined.Text(l...)
}

// added returns a list with an element, if it was not there.
func added[T comparable](l []T, e T) []T {
	if slices.Contains(l, e) {
		return l
	}
	return append(l, e)
}

// collect adds what a condition is about.
func (t *topics) collect(e api.Expr) {
	switch e.Op {
	case api.ExprTrue:
	case api.ExprNot, api.ExprAnd, api.ExprOr:
		for _, kid := range e.Kids {
			t.collect(kid)
		}
	case api.ExprLimit, api.ExprOver:
		t.numbers[key(e)] = added(t.numbers[key(e)], e.N+e.Extra)
	case api.ExprIs:
		t.texts[key(e)] = added(t.texts[key(e)], e.Value)
	case api.ExprHas:
		if _, ok := t.texts[key(e)]; !ok {
			t.texts[key(e)] = nil
		}
	default:
		t.wholes[key(e)] = true
	}
}

// arrange gives each topic its place in the numbers of cases, and returns how many cases there are; false if there are too many.
func (t *topics) arrange() (int, bool) {
	size := 1
	add := func(key string, number int) {
		if size <= api.MaxSteps {
			t.at[key] = topic{step: size, number: number}
			size *= number
		}
	}
	for _, name := range slices.Sorted(maps.Keys(t.numbers)) {
		slices.Sort(t.numbers[name])
		add(name, len(t.numbers[name])+1)
	}
	for _, name := range slices.Sorted(maps.Keys(t.texts)) {
		add(name, len(t.texts[name])+2)
	}
	for _, name := range slices.Sorted(maps.Keys(t.wholes)) {
		add(name, 2)
	}
	return size, size <= api.MaxSteps
}

// compile returns a function that says whether a condition holds in the case with a number.
func (t *topics) compile(e api.Expr) func(at int) bool {
	k := key(e)
	about := t.at[k]
	switch e.Op {
	case api.ExprTrue:
		return func(int) bool { return true }
	case api.ExprNot:
		kid := t.compile(e.Kids[0])
		return func(at int) bool { return !kid(at) }
	case api.ExprAnd, api.ExprOr:
		var kids []func(at int) bool
		for _, kid := range e.Kids {
			kids = append(kids, t.compile(kid))
		}
		deciding := e.Op == api.ExprOr // what one kid needs to have
		return func(at int) bool {
			return slices.ContainsFunc(kids, func(kid func(at int) bool) bool { return kid(at) == deciding }) == deciding
		}
	case api.ExprLimit, api.ExprOver:
		place := slices.Index(t.numbers[k], e.N+e.Extra)
		return func(at int) bool { return (about.said(at) > place) == (e.Op == api.ExprOver) }
	case api.ExprIs:
		value := slices.Index(t.texts[k], e.Value)
		return func(at int) bool { return about.said(at) == value }
	case api.ExprHas:
		nothing := about.number - 1
		return func(at int) bool { return about.said(at) != nothing }
	}
	return func(at int) bool { return about.said(at) == 1 }
}
