package keep_test

import (
	"math/rand"
	"reflect"
	"slices"
	"strconv"
	"testing"

	"bogie/api"
	"bogie/chain"
	"bogie/keep"
	"bogie/record"
	"bogie/sample"
)

func note(author, number, clock int, prev string, what int) api.Record {
	return api.Record{Kind: api.RecBack, Author: author, Number: number, Clock: clock, Prev: prev, Target: strconv.Itoa(what + 1000000000000000)}
}

func shown(l []api.Record) []string {
	var s []string
	for _, r := range l {
		s = append(s, record.Id(r))
	}
	return s
}

func TestExamples(t *testing.T) { // P50.1
	a := note(1, 1, 1, "", 1)
	var forked []api.Record
	for i := range 5 {
		forked = append(forked, note(1, 2, 2+i, record.Id(a), 2+i))
	}
	slices.SortFunc(forked, func(x, y api.Record) int {
		return map[bool]int{true: -1, false: 1}[record.Id(x) < record.Id(y)]
	})
	c, b, e := forked[0], forked[1], forked[4]
	d := note(1, 3, 9, record.Id(b), 9)
	f := note(2, 2, 1, "0000000000000000", 1)
	for i, x := range []struct{ l, want []api.Record }{
		{[]api.Record{a, b, d}, []api.Record{a, b, d}}, {[]api.Record{a, b, c, d, e}, []api.Record{a, b, c}}, {[]api.Record{f, a, f}, []api.Record{f, a}}, {[]api.Record{e, d, forked[3], b, c, forked[2], a}, []api.Record{b, c, a}}, {[]api.Record{e, b}, []api.Record{e, b}}, {[]api.Record{{}, a}, []api.Record{a}}, {nil, nil},
		{[]api.Record{a, note(1, 2, 1, "0000000000000000", 7)}, []api.Record{a, note(1, 2, 1, "0000000000000000", 7)}}, // neither counts nor waits, but may become a fork
	} {
		if got := keep.Keep(x.l); !slices.Equal(shown(got), shown(x.want)) {
			t.Error(i, got)
		}
	}
	hold := api.Record{Kind: api.RecHold, Number: 1, Clock: 1, Name: "v", Members: []int{1, 2}}
	keep.Keep([]api.Record{hold})[0].Members[0] = 7
	if hold.Members[0] != 1 {
		t.Error("shared memory")
	}
	sealed := sample.Signed(hold) // the first one with an Id stays
	if got := keep.Keep([]api.Record{sealed, hold}); len(got) != 1 || !reflect.DeepEqual(got[0], sealed) {
		t.Error(got)
	}
}

// random returns records of two authors, with gaps, forks, and broken journals.
func random(r *rand.Rand) []api.Record {
	var l []api.Record
	for range r.Intn(12) {
		number := 1 + r.Intn(4)
		prev := ""
		if number > 1 {
			prev = "0000000000000000"
			for _, old := range l {
				if old.Number == number-1 && r.Intn(2) == 0 {
					prev = record.Id(old)
				}
			}
		}
		l = append(l, note(r.Intn(2), number, number+r.Intn(3), prev, r.Intn(3)))
	}
	r.Shuffle(len(l), func(i, j int) { l[i], l[j] = l[j], l[i] })
	return l
}

func each(seed int64, check func(r *rand.Rand, l []api.Record)) {
	r := rand.New(rand.NewSource(seed))
	for range 500 {
		check(r, random(r))
	}
}

func of(l []api.Record) *chain.Chain {
	c := chain.New()
	for _, r := range l {
		c.Add(r)
	}
	return c
}

// equal compares what two chains show.
func equal(a, b *chain.Chain) bool {
	for author := range 3 {
		m, ok := a.Fork(author)
		if n, ok2 := b.Fork(author); m != n || ok != ok2 {
			return false
		}
	}
	return slices.Equal(shown(a.Order()), shown(b.Order())) && slices.Equal(a.Waiting(), b.Waiting()) && slices.Equal(a.Forked(), b.Forked())
}

func TestTheSame(t *testing.T) { // P50.2, P50.3 and P50.4
	dropped := 0
	each(1, func(r *rand.Rand, l []api.Record) {
		kept := keep.Keep(l)
		dropped += len(l) - len(kept)
		if !equal(of(l), of(kept)) {
			t.Fatal("now:", l, kept)
		}
		more := random(r)
		if !equal(of(append(slices.Clone(l), more...)), of(append(slices.Clone(kept), more...))) {
			t.Fatal("later:", l, kept, more)
		}
		if again := keep.Keep(kept); !slices.Equal(shown(again), shown(kept)) {
			t.Fatal("again:", kept, again)
		}
	})
	if dropped < 200 {
		t.Error("too few cases:", dropped)
	}
}

func TestFew(t *testing.T) { // P50.5
	each(2, func(_ *rand.Rand, l []api.Record) {
		c := of(l)
		kept := map[string]bool{}
		at := map[[2]int]int{}
		for _, r := range keep.Keep(l) {
			kept[record.Id(r)] = true
			at[[2]int{r.Author, r.Number}]++
			if fork, ok := c.Fork(r.Author); ok && r.Number > fork {
				t.Fatal(l, r)
			}
		}
		for _, r := range l {
			fork, ok := c.Fork(r.Author)
			if (!ok || r.Number < fork) && !kept[record.Id(r)] || ok && at[[2]int{r.Author, fork}] != 2 {
				t.Fatal(l, r)
			}
		}
	})
}

func TestOrderAndParts(t *testing.T) { // P50.6 and P50.7
	sorted := func(l []api.Record) []string {
		s := shown(l)
		slices.Sort(s)
		return s
	}
	each(3, func(r *rand.Rand, l []api.Record) {
		want := sorted(keep.Keep(l))
		other := slices.Clone(l)
		r.Shuffle(len(other), func(i, j int) { other[i], other[j] = other[j], other[i] })
		if got := sorted(keep.Keep(other)); !slices.Equal(got, want) {
			t.Fatal(l, other)
		}
		n := r.Intn(len(l) + 1)
		parts := append(keep.Keep(l[:n]), keep.Keep(l[n:])...)
		if got := keep.Keep(parts); !slices.Equal(shown(got), shown(keep.Keep(l))) {
			t.Fatal(l, n)
		}
	})
}
