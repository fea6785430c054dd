package book_test

import (
	"fmt"
	"math"
	"math/rand"
	"reflect"
	"slices"
	"testing"

	"bogie/api"
	"bogie/book"
	"bogie/sample"
)

// amend returns an amendment about a rule with a number as its limit; it is void if this is 0.
func amend(clock, from, to int, name string, limit int) api.Amendment {
	return api.Amendment{Clock: clock, From: from, To: to, Void: limit == 0, Rule: sample.Rule(fmt.Sprintf("rule %s for coach: limit km %d;", name, limit))}
}

// shown returns rules as names and limits.
func shown(l []api.Rule) string {
	s := ""
	for _, r := range l {
		s += fmt.Sprint(r.Name, r.Cond.N, " ")
	}
	return s
}

func TestInForce(t *testing.T) { // P23.1: W1
	l := []api.Amendment{amend(1, 0, 99, "a", 1), amend(2, 10, 19, "a", 0), amend(3, 15, 30, "a", 2)}
	for _, c := range []struct {
		day, clock int
		want       string
	}{{12, 1, "a1 "}, {12, 2, ""}, {15, 3, "a2 "}, {15, 2, ""}, {9, 3, "a1 "}, {19, 3, "a2 "}, {30, 3, "a2 "}, {31, 3, "a1 "}, {99, 3, "a1 "}, {100, 3, ""}, {-1, 3, ""}, {5, 0, ""}, {5, -1, ""}, {5, math.MaxInt, "a1 "}, {math.MaxInt, 3, ""}, {math.MinInt, math.MinInt, ""}} {
		if got := shown(book.InForce(l, c.day, c.clock)); got != c.want {
			t.Error(c, got)
		}
	}
	l = append(l, amend(3, 0, 99, "Z", 7), amend(3, 0, 99, "b", 7), amend(3, 20, 20, "b", 8), amend(0, 0, 99, "b", 9))
	if got := shown(book.InForce(l, 20, 3)); got != "Z7 a2 b8 " {
		t.Error(got)
	}
	if got := shown(book.InForce(l, 50, 3)); got != "Z7 a1 b7 " {
		t.Error(got)
	}
	for _, change := range []func(a *api.Amendment){
		func(a *api.Amendment) { a.Clock = -1 }, func(a *api.Amendment) { a.Clock = api.MaxClock + 1 }, func(a *api.Amendment) { a.From = -1 }, func(a *api.Amendment) { a.To = 40001 }, func(a *api.Amendment) { a.From, a.To = 6, 5 }, func(a *api.Amendment) { a.Rule.Name = "" }, func(a *api.Amendment) { a.Rule.Cond = api.Expr{} },
	} {
		bad := amend(5, 0, 40000, "x", 3)
		change(&bad)
		for _, day := range []int{-1, 0, 5, 6, 40000, 40001} {
			if got := shown(book.InForce([]api.Amendment{bad, amend(1, 0, 40000, "y", 1)}, day, math.MaxInt)); got != "y1 " && day >= 0 && day <= 40000 || got != "" && (day < 0 || day > 40000) {
				t.Error(bad, day, got)
			}
		}
		if got := book.Days([]api.Amendment{bad}, math.MaxInt); len(got) != 0 {
			t.Error(bad, got)
		}
	}
	got := book.InForce(l, 20, 3)
	got[0].Cond.Name = "changed"
	deep := []api.Amendment{{To: 9, Rule: sample.Rule("rule d for coach: not has x;")}}
	book.InForce(deep, 5, 5)[0].Cond.Kids[0].Name = "changed"
	if deep[0].Rule.Cond.Kids[0].Name != "x" || shown(book.InForce(l, 20, 3)) != "Z7 a2 b8 " {
		t.Error("shared memory")
	}
}

func TestDaysValues(t *testing.T) { // P23.1: W2
	l := []api.Amendment{amend(1, 0, 99, "a", 1), amend(2, 10, 19, "a", 0), amend(3, 15, 30, "a", 2)}
	for clock, want := range map[int][]int{3: {0, 10, 15, 31, 100}, 2: {0, 10, 20, 100}, 1: {0, 100}, 0: nil} {
		if got := book.Days(l, clock); !slices.Equal(got, want) {
			t.Error(clock, got)
		}
	}
	for _, c := range []struct {
		l    []api.Amendment
		want []int
	}{
		{[]api.Amendment{amend(1, 5, 40000, "a", 1)}, []int{5}}, {[]api.Amendment{amend(1, 0, 9, "a", 1), amend(2, 10, 19, "a", 1)}, []int{0, 20}}, {[]api.Amendment{amend(1, 0, 9, "a", 1), amend(2, 10, 19, "b", 1)}, []int{0, 10, 20}},
		{[]api.Amendment{amend(1, 0, 9, "a", 0)}, nil}, {[]api.Amendment{amend(1, 40000, 40000, "a", 1)}, []int{40000}}, {[]api.Amendment{amend(1, 0, 39999, "a", 1)}, []int{0, 40000}}, {[]api.Amendment{amend(1, 0, 19, "a", 1), amend(2, 5, 9, "a", 1)}, []int{0, 20}}, {nil, nil},
	} {
		if got := book.Days(c.l, 5); !slices.Equal(got, c.want) {
			t.Error(c, got)
		}
	}
	for i, change := range []func(r *api.Rule){func(r *api.Rule) { r.Kind = "x" }, func(r *api.Rule) { r.Cond.N = 7 }, func(r *api.Rule) { r.Cond.Extra = 7 }, func(r *api.Rule) { r.Cond.Name = "x" }, func(r *api.Rule) { r.Cond.Op = api.ExprOver }, func(r *api.Rule) { r.Cond = sample.Rule("rule r for c: not has x;").Cond }} {
		a, b := amend(1, 0, 9, "a", 1), amend(1, 10, 40000, "a", 1)
		change(&b.Rule)
		if got := book.Days([]api.Amendment{a, b}, 5); !slices.Equal(got, []int{0, 10}) {
			t.Error(i, got)
		}
	}
	x, y := amend(1, 0, 9, "a", 1), amend(1, 10, 40000, "a", 1)
	x.Rule.Cond, y.Rule.Cond = sample.Rule("rule r for c: not batch = \"A\";").Cond, sample.Rule("rule r for c: not batch = \"B\";").Cond
	if got := book.Days([]api.Amendment{x, y}, 5); !slices.Equal(got, []int{0, 10}) {
		t.Error(got)
	}
}

func random(r *rand.Rand) []api.Amendment {
	var l []api.Amendment
	for range r.Intn(8) {
		from := r.Intn(12)
		l = append(l, amend(r.Intn(6), from, from+r.Intn(8), string(rune('a'+r.Intn(3))), r.Intn(3)))
	}
	return l
}

func TestOneForEachName(t *testing.T) { // P23.2
	r := rand.New(rand.NewSource(1))
	for range 500 {
		l := random(r)
		day, clock := r.Intn(22), r.Intn(7)
		last := ""
		for _, rule := range book.InForce(l, day, clock) {
			if rule.Name <= last {
				t.Fatal(l, rule)
			}
			last = rule.Name
			if !slices.ContainsFunc(l, func(a api.Amendment) bool {
				return reflect.DeepEqual(a.Rule, rule) && !a.Void && a.Clock <= clock && a.From <= day && day <= a.To
			}) {
				t.Fatal(l, rule)
			}
		}
	}
}

func TestDays(t *testing.T) { // P23.3
	r := rand.New(rand.NewSource(2))
	for range 300 {
		l, clock := random(r), r.Intn(7)
		var want []int
		for day := range 30 {
			if shown(book.InForce(l, day, clock)) != shown(book.InForce(l, day-1, clock)) {
				want = append(want, day)
			}
		}
		if got := book.Days(l, clock); !slices.Equal(got, want) {
			t.Fatal(l, clock, got, want)
		}
	}
}

func TestOrder(t *testing.T) { // P23.4
	r := rand.New(rand.NewSource(3))
	for range 300 {
		l := random(r)
		for i := range l {
			l[i].Clock = i
		}
		other := slices.Clone(l)
		r.Shuffle(len(other), func(i, j int) { other[i], other[j] = other[j], other[i] })
		day, clock := r.Intn(22), r.Intn(9)
		if shown(book.InForce(l, day, clock)) != shown(book.InForce(other, day, clock)) || !slices.Equal(book.Days(l, clock), book.Days(other, clock)) {
			t.Fatal(l, other)
		}
	}
}

func TestLaterAndOthers(t *testing.T) { // P23.5, P23.6 and P23.7
	r := rand.New(rand.NewSource(4))
	for range 500 {
		l := random(r)
		day, clock := r.Intn(22), r.Intn(6)
		more := amend(6, r.Intn(12), 15, "a", r.Intn(3))
		at := r.Intn(len(l) + 1)
		all := slices.Insert(slices.Clone(l), at, more)
		if shown(book.InForce(l, day, clock)) != shown(book.InForce(all, day, clock)) {
			t.Fatal("a later one:", all, day, clock)
		}
		with := func(l []api.Rule, a bool) string {
			return shown(slices.DeleteFunc(l, func(r api.Rule) bool { return (r.Name == "a") != a }))
		}
		if with(book.InForce(l, day, 9), false) != with(book.InForce(all, day, 9), false) {
			t.Fatal("other names:", all, day)
		}
		got := with(book.InForce(all, day, 9), true)
		if speaks := more.From <= day && day <= more.To; speaks && got != with([]api.Rule{more.Rule}, !more.Void) && !more.Void || speaks && more.Void && got != "" || !speaks && got != with(book.InForce(l, day, 9), true) {
			t.Fatal("the greatest clock:", all, day, got)
		}
		// A clock of its own, but less than others: at every clock from then on it counts at its place.
		early := more
		early.Clock = 3
		var spread []api.Amendment
		for _, a := range l {
			a.Clock = 2*a.Clock + 2
			spread = append(spread, a)
		}
		early.Clock = 7
		for clock := 7; clock < 14; clock++ {
			one := shown(book.InForce(slices.Insert(slices.Clone(spread), at, early), day, clock))
			two := shown(book.InForce(append(slices.Clone(spread), early), day, clock))
			if one != two {
				t.Fatal("too late:", spread, early, day, clock)
			}
		}
	}
}
