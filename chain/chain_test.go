package chain_test

import (
	"cmp"
	"math/rand"
	"reflect"
	"slices"
	"strconv"
	"testing"

	"bogie/api"
	"bogie/chain"
	"bogie/record"
	"bogie/sample"
)

// note returns a record without a seal; its Target tells it from others.
func note(author, number, clock int, prev string, what int) api.Record {
	r := api.Record{Kind: api.RecBack, Author: author, Number: number, Clock: clock, Prev: prev, Target: strconv.Itoa(what + 1000000000000000)}
	if number > 1 && prev == "" {
		r.Prev = "0000000000000000"
	}
	return r
}

// journal returns the records of an author that count, with clocks from one on.
func journal(author, n, clock int) []api.Record {
	var l []api.Record
	prev := ""
	for i := range n {
		l = append(l, note(author, i+1, clock+i, prev, i))
		prev = record.Id(l[i])
	}
	return l
}

func of(t *testing.T, l ...api.Record) *chain.Chain {
	t.Helper()
	c := chain.New()
	for _, r := range l {
		if err := c.Add(r); err != api.OK && err != api.ErrTwice {
			t.Fatal(r, err)
		}
	}
	return c
}

func ids(l []api.Record) []string {
	var s []string
	for _, r := range l {
		s = append(s, record.Id(r))
	}
	return s
}

func same(t *testing.T, what string, c *chain.Chain, order, waiting []api.Record, forked ...int) {
	t.Helper()
	if !slices.Equal(ids(c.Order()), ids(order)) || !slices.Equal(c.Waiting(), ids(waiting)) || !slices.Equal(c.Forked(), forked) {
		t.Error(what, c.Order(), c.Waiting(), c.Forked())
	}
}

func TestExamples(t *testing.T) { // P49.1
	a, b := journal(0, 3, 5), journal(1, 1, 3)
	c := of(t, a[0], a[2], b[0])
	same(t, "a gap", c, []api.Record{b[0], a[0]}, []api.Record{a[2]})
	c.Add(a[1])
	same(t, "no gap", c, []api.Record{b[0], a[0], a[1], a[2]}, nil)
	c.Add(note(0, 2, 9, record.Id(a[0]), 99))
	same(t, "a fork", c, []api.Record{b[0], a[0]}, nil, 0)
	if n, ok := c.Fork(0); n != 2 || !ok {
		t.Error(n, ok)
	}
	for _, author := range []int{1, 2, -1, 60} {
		if n, ok := c.Fork(author); n != 0 || ok {
			t.Error(author, n, ok)
		}
	}
	// Records of one clock are in the order of their Ids.
	x, y := note(0, 1, 7, "", 1), note(1, 1, 7, "", 2)
	order := []api.Record{x, y}
	slices.SortFunc(order, func(a, b api.Record) int { return cmp.Compare(record.Id(a), record.Id(b)) })
	same(t, "one clock", of(t, x, y), order, nil)
	same(t, "waiting", of(t, note(0, 2, 7, "", 1), note(1, 9, 3, "", 2)), nil, []api.Record{note(1, 9, 3, "", 2), note(0, 2, 7, "", 1)})
}

func TestCounting(t *testing.T) { // P49.1, P49.2 and P49.7
	a := journal(0, 2, 5)
	for i, c := range []struct {
		next api.Record
		want int
	}{{note(0, 3, 7, record.Id(a[1]), 3), 3}, {note(0, 3, 6, record.Id(a[1]), 3), 2}, {note(0, 3, 5, record.Id(a[1]), 3), 2}, {note(0, 3, 7, record.Id(a[0]), 3), 2}, {note(0, 3, 7, "", 3), 2}} {
		l := append(slices.Clone(a), c.next, note(0, 4, 9, record.Id(c.next), 4))
		got := of(t, l...)
		if c.want == 3 {
			c.want = 4
		}
		same(t, strconv.Itoa(i), got, l[:c.want], nil) // what does not count, and has no gap before it, does not wait
	}
	same(t, "behind what does not count, there is a gap", of(t, a[0], note(0, 2, 1, record.Id(a[0]), 3), note(0, 4, 9, "", 4)), a[:1], []api.Record{note(0, 4, 9, "", 4)})
}

func TestAdd(t *testing.T) { // P49.1: AW1 and AW2
	var none *chain.Chain
	r, ok := none.Get("x")
	n, is := none.Fork(0)
	if none.Add(note(0, 1, 1, "", 1)) != api.ErrArg || none.Order() != nil || none.Waiting() != nil || none.Forked() != nil || ok || is || n != 0 || !reflect.DeepEqual(r, api.Record{}) {
		t.Error("nil")
	}
	c := chain.New()
	hold := api.Record{Kind: api.RecHold, Number: 1, Clock: 1, Name: "v", Members: []int{1, 2}}
	if c.Add(api.Record{}) != api.ErrArg || c.Add(hold) != api.OK || c.Add(hold) != api.ErrTwice {
		t.Error("errors")
	}
	sealed := sample.Signed(hold)
	if c.Add(sealed) != api.ErrTwice {
		t.Error("another seal has the same Id")
	}
	hold.Members[0] = 0
	got, ok := c.Get(record.Id(sealed))
	if !ok || !reflect.DeepEqual(got.Members, []int{1, 2}) || len(got.Seal.Sig) != 0 {
		t.Error("the argument is kept", got)
	}
	got.Members[0] = 7
	c.Order()[0].Members[0] = 8
	if again, _ := c.Get(record.Id(sealed)); again.Members[0] != 1 {
		t.Error("the result is kept")
	}
	if r, ok := c.Get("x"); ok || !reflect.DeepEqual(r, api.Record{}) {
		t.Error(r, ok)
	}
}

func TestFull(t *testing.T) { // P49.1: AW1
	c := chain.New()
	for i := range api.MaxRecords {
		if err := c.Add(note(i%60, 1+i%256, 1, "", i)); err != api.OK {
			t.Fatal(i, err)
		}
	}
	if c.Add(note(0, 1, 1, "", api.MaxRecords)) != api.ErrFull || c.Add(note(0, 1, 1, "", 0)) != api.ErrTwice || c.Add(api.Record{}) != api.ErrArg {
		t.Error("not full")
	}
}

// random returns records of three authors, some of which have forks and gaps.
func random(r *rand.Rand) []api.Record {
	var l []api.Record
	for author := range 3 {
		own := journal(author, 1+r.Intn(5), 1+r.Intn(4))
		for _, rec := range own {
			if r.Intn(6) > 0 {
				l = append(l, rec)
			}
			if r.Intn(10) == 0 {
				rec.Clock += r.Intn(3)
				rec.Target = "1111111111111111"
				l = append(l, rec)
			}
		}
	}
	r.Shuffle(len(l), func(i, j int) { l[i], l[j] = l[j], l[i] })
	return l
}

func each(seed int64, check func(r *rand.Rand, l []api.Record)) {
	r := rand.New(rand.NewSource(seed))
	for range 200 {
		check(r, random(r))
	}
}

// plain finds which records count and wait, in the words of the document.
func plain(l []api.Record) (order, waiting []api.Record, forks map[int]int) {
	forks = map[int]int{}
	known := map[string]api.Record{}
	for _, r := range l {
		known[record.Id(r)] = r
	}
	for id, r := range known {
		for other, s := range known {
			if id != other && r.Author == s.Author && r.Number == s.Number && (forks[r.Author] == 0 || r.Number < forks[r.Author]) {
				forks[r.Author] = r.Number
			}
		}
	}
	at := func(author, number int) (api.Record, bool) {
		for _, r := range known {
			if r.Author == author && r.Number == number {
				return r, true
			}
		}
		return api.Record{}, false
	}
	var counts func(r api.Record) bool
	counts = func(r api.Record) bool {
		if f := forks[r.Author]; f > 0 && r.Number >= f {
			return false
		}
		before, ok := at(r.Author, r.Number-1)
		return r.Number == 1 || ok && counts(before) && record.Id(before) == r.Prev && before.Clock < r.Clock
	}
	for _, r := range known {
		gap := false
		for n := 1; n < r.Number; n++ {
			_, ok := at(r.Author, n)
			gap = gap || !ok
		}
		if counts(r) {
			order = append(order, r)
		} else if f := forks[r.Author]; (f == 0 || r.Number < f) && gap {
			waiting = append(waiting, r)
		}
	}
	less := func(a, b api.Record) int {
		return cmp.Or(a.Clock-b.Clock, cmp.Compare(record.Id(a), record.Id(b)))
	}
	slices.SortFunc(order, less)
	slices.SortFunc(waiting, less)
	return order, waiting, forks
}

func TestPlain(t *testing.T) { // P49.1 to P49.4
	found := [3]int{}
	each(1, func(r *rand.Rand, l []api.Record) {
		order, waiting, forks := plain(l)
		var forked []int
		for author := range 60 {
			if forks[author] > 0 {
				forked = append(forked, author)
			}
		}
		again := append(slices.Clone(l), l...)
		r.Shuffle(len(again), func(i, j int) { again[i], again[j] = again[j], again[i] })
		for _, c := range []*chain.Chain{of(t, l...), of(t, again...)} {
			same(t, "random", c, order, waiting, forked...)
			for author := range 4 {
				if n, ok := c.Fork(author); n != forks[author] || ok != (n > 0) {
					t.Fatal(l, author, n, ok)
				}
			}
		}
		found[0], found[1], found[2] = found[0]+len(order), found[1]+len(waiting), found[2]+len(forked)
	})
	if slices.Min(found[:]) < 30 {
		t.Error("too few cases:", found)
	}
}

func TestOthersAndMore(t *testing.T) { // P49.4, P49.5, P49.6 and P49.7
	each(2, func(r *rand.Rand, l []api.Record) {
		c := chain.New()
		for _, rec := range l {
			before, waited := c.Order(), c.Waiting()
			fork, forked := c.Fork(rec.Author)
			c.Add(rec)
			after, waits := ids(c.Order()), c.Waiting()
			now, still := c.Fork(rec.Author)
			if forked && (!still || now > fork) {
				t.Fatal("a fork went away:", l)
			}
			for _, old := range before {
				if !slices.Contains(after, record.Id(old)) && (old.Author != rec.Author || !still || now > old.Number) {
					t.Fatal("does not count any more:", l, old)
				}
			}
			for _, id := range append(slices.Clone(after), waits...) {
				if r, _ := c.Get(id); r.Author != rec.Author && !slices.Contains(append(ids(before), waited...), id) {
					t.Fatal("another author:", l, r)
				}
			}
		}
		final := append(ids(c.Order()), c.Waiting()...)
		for _, rec := range l { // what neither counts nor waits never does
			if id := record.Id(rec); !slices.Contains(final, id) {
				more := of(t, append(slices.Clone(l), journal(rec.Author, 6, 1)...)...)
				if slices.Contains(append(ids(more.Order()), more.Waiting()...), id) {
					t.Fatal("it counts after all:", l, rec)
				}
			}
		}
	})
}
