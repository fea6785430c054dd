package net_test

import (
	"fmt"
	"math"
	"math/rand"
	"slices"
	"strings"
	"testing"

	"bogie/api"
	"bogie/digest"
	"bogie/joined"
	"bogie/net"
	"bogie/record"
	"bogie/sample"
)

func network(t *testing.T, nodes int) *net.Net {
	t.Helper()
	n, err := net.New(nodes)
	if err != api.OK {
		t.Fatal(err)
	}
	return n
}

func TestNew(t *testing.T) { // P53.1: BA1
	for _, nodes := range []int{0, -1, 65, math.MaxInt} {
		if n, err := net.New(nodes); n != nil || err != api.ErrArg {
			t.Error(nodes, err)
		}
	}
	for _, nodes := range []int{1, 64} {
		if n, err := net.New(nodes); n == nil || err != api.OK {
			t.Error(nodes, err)
		}
	}
	var n *net.Net
	s, err := n.Deliver(0, 1, 0, true)
	if s != "" || err != api.ErrArg || n.Send(0, 1, "a") != api.ErrArg || n.Waiting(0, 1) != 0 || n.Lose(0, 1, 0) != api.ErrArg || n.Spoil(0, 1, 0, 0, 1) != api.ErrArg {
		t.Error("nil")
	}
}

func TestExamples(t *testing.T) { // P53.1: BA2 and BA3
	n := network(t, 2)
	n.Send(0, 1, "a")
	n.Send(0, 1, "b")
	a, err := n.Deliver(0, 1, 1, false)
	b, err2 := n.Deliver(0, 1, 0, true)
	if a != "b" || b != "a" || err != api.OK || err2 != api.OK || n.Waiting(0, 1) != 1 || n.Waiting(1, 0) != 0 {
		t.Error(a, b)
	}
	if err := n.Spoil(0, 1, 0, 0, 3); err != api.OK {
		t.Error(err)
	}
	if s, err := n.Deliver(0, 1, 0, false); s != "b" || err != api.OK || n.Waiting(0, 1) != 0 {
		t.Error(s, err)
	}
}

func TestErrors(t *testing.T) { // P53.3, and P53.1: BA2 and BA3
	n := network(t, 3)
	n.Send(0, 1, "ab")
	for _, pair := range [][2]int{{0, 0}, {-1, 0}, {0, 3}, {3, 0}, {0, -1}, {2, 2}, {math.MaxInt, 0}} {
		from, to := pair[0], pair[1]
		s, err := n.Deliver(from, to, 0, false)
		if s != "" || err != api.ErrArg || n.Send(from, to, strings.Repeat("x", 20001)) != api.ErrArg || n.Waiting(from, to) != 0 || n.Lose(from, to, 9) != api.ErrArg || n.Spoil(from, to, 9, 9, 1) != api.ErrArg {
			t.Error(pair)
		}
	}
	for _, index := range []int{-1, 1, math.MaxInt, math.MinInt} {
		s, err := n.Deliver(0, 1, index, false)
		if s != "" || err != api.ErrNone || n.Lose(0, 1, index) != api.ErrNone || n.Spoil(0, 1, index, 0, 1) != api.ErrNone || n.Spoil(0, 1, index, 0, 0) != api.ErrArg {
			t.Error(index, err)
		}
	}
	if n.Spoil(0, 1, 0, 2, 1) != api.ErrNone || n.Spoil(0, 1, 0, -1, 1) != api.ErrNone || n.Spoil(0, 1, 0, 0, 256) != api.ErrArg || n.Spoil(0, 1, 0, 0, -1) != api.ErrArg || n.Send(1, 0, strings.Repeat("x", 20001)) != api.ErrLimit || n.Send(1, 0, strings.Repeat("x", 20000)) != api.OK {
		t.Error("errors")
	}
	for range 99 {
		n.Send(0, 1, "c")
	}
	if n.Waiting(0, 1) != 100 || n.Send(0, 1, "c") != api.ErrFull || n.Send(0, 1, strings.Repeat("x", 20001)) != api.ErrLimit || n.Waiting(0, 1) != 100 || n.Waiting(1, 0) != 1 {
		t.Error("full")
	}
	if s, _ := n.Deliver(0, 1, 0, false); s != "ab" || n.Send(0, 1, "d") != api.OK {
		t.Error(s)
	}
}

func TestQueues(t *testing.T) { // P53.2 and P53.3
	r := rand.New(rand.NewSource(1))
	for range 100 {
		n := network(t, 3)
		model := map[[2]int][]string{}
		for step := range 200 {
			pair := [2]int{r.Intn(3), r.Intn(3)}
			if pair[0] == pair[1] {
				continue
			}
			q := model[pair]
			index := r.Intn(4)
			want := api.OK
			if index >= len(q) {
				want = api.ErrNone
			}
			switch r.Intn(6) {
			case 0, 1, 2:
				m := fmt.Sprint("message ", step)
				want = api.OK
				if len(q) == 100 {
					want = api.ErrFull
				} else {
					model[pair] = append(q, m)
				}
				if err := n.Send(pair[0], pair[1], m); err != want {
					t.Fatal(err)
				}
			case 3:
				again := r.Intn(2) == 0
				got, err := n.Deliver(pair[0], pair[1], index, again)
				if err != want || want == api.OK && got != q[index] {
					t.Fatal(got, err)
				}
				if want == api.OK && !again {
					model[pair] = slices.Delete(slices.Clone(q), index, index+1)
				}
			case 4:
				if err := n.Lose(pair[0], pair[1], index); err != want {
					t.Fatal(err)
				}
				if want == api.OK {
					model[pair] = slices.Delete(slices.Clone(q), index, index+1)
				}
			default:
				at, mask := r.Intn(8), 1+r.Intn(255)
				if err := n.Spoil(pair[0], pair[1], index, at, mask); err != want {
					t.Fatal(err)
				}
				if want == api.OK {
					b := []byte(q[index])
					b[at] ^= byte(mask)
					model[pair][index] = string(b)
				}
			}
			for from := range 3 {
				for to := range 3 {
					if from == to {
						continue
					}
					l := model[[2]int{from, to}]
					if n.Waiting(from, to) != len(l) {
						t.Fatal("waiting", from, to)
					}
					for i := range l {
						if got, _ := n.Deliver(from, to, i, true); got != l[i] {
							t.Fatal(from, to, i, got)
						}
					}
				}
			}
		}
	}
}

// records returns texts of records without seals, with different Ids.
func records(n, from int) []string {
	var l []api.Record
	for i := range n {
		l = append(l, api.Record{Kind: api.RecBack, Author: 1, Number: 1, Clock: 1, Target: fmt.Sprintf("%016d", from+i)})
	}
	return sample.Texts(l...)
}

func id(text string) string {
	r, _ := record.Parse(text)
	return record.Id(r)
}

func idsOf(texts []string) []string {
	var l []string
	for _, text := range texts {
		if r, err := record.Parse(text); err == api.OK {
			l = append(l, record.Id(r))
		}
	}
	slices.Sort(l)
	return slices.Compact(l)
}

// span returns what an offer has for the range of a prefix.
func span(ids []string, prefix string) []string {
	ids = slices.DeleteFunc(slices.Clone(ids), func(id string) bool { return !strings.HasPrefix(id, prefix) })
	l := []string{prefix, fmt.Sprint(len(ids)), digest.List(ids)}
	if len(ids) <= 16 {
		l = append(l, ids...)
	}
	return l
}

func offer(ids []string, prefixes ...string) string {
	l := []string{"offer", fmt.Sprint(len(prefixes))}
	for _, p := range prefixes {
		l = append(l, span(ids, p)...)
	}
	return joined.Text(l...)
}

func want(ids ...string) string { return joined.Text(append([]string{"want"}, ids...)...) }

func answer(t *testing.T, texts []string, message string) []string {
	t.Helper()
	l, err := net.Answer(texts, message)
	if err != api.OK {
		t.Fatal(err)
	}
	return l
}

func TestOffer(t *testing.T) { // P53.1: BA4, and P53.7
	for _, n := range []int{0, 1, 16, 17, 40} {
		texts := records(n, 0)
		other := append(append(slices.Clone(texts), "no record"), texts...)
		slices.Reverse(other)
		for _, l := range [][]string{texts, other} {
			if got, err := net.Offer(l); got != offer(idsOf(texts), "") || err != api.OK {
				t.Error(n, got, err)
			}
		}
	}
	if got, err := net.Offer(make([]string, 100001)); got != "" || err != api.ErrLimit {
		t.Error(err)
	}
	if got, err := net.Offer(make([]string, 100000)); got != offer(nil, "") || err != api.OK {
		t.Error(err)
	}
}

func TestAnswer(t *testing.T) { // P53.1: BA5
	r := records(1, 0)
	none := offer(nil, "")
	if got := answer(t, r, none); !slices.Equal(got, r) {
		t.Error(got)
	}
	if got := answer(t, nil, offer(idsOf(r), "")); !slices.Equal(got, []string{want(id(r[0]))}) {
		t.Error(got)
	}
	if got := answer(t, r, want(id(r[0]))); !slices.Equal(got, r) {
		t.Error(got)
	}
	if got := answer(t, nil, none); len(got) != 0 {
		t.Error(got)
	}
	// Wants: in order, each record once; Ids that are not there are left out.
	some := records(5, 0)
	if got := answer(t, some, want(id(some[3]), "0123456789abcdef", id(some[1]), id(some[3]))); !slices.Equal(got, []string{some[3], some[1]}) {
		t.Error(got)
	}
	// Of several texts with one Id the first one counts.
	sealed, _ := record.Parse(r[0])
	sealed.Author = 1
	double := sample.Texts(sample.Signed(sealed))
	if got := answer(t, append(double, r...), none); !slices.Equal(got, double) {
		t.Error(got)
	}
	if got := answer(t, append(slices.Clone(r), double...), none); !slices.Equal(got, r) {
		t.Error(got)
	}
	// A large range that differs: a small own one is offered, and a large one is divided.
	large, larger := records(40, 0), records(41, 0)
	if got := answer(t, some, offer(idsOf(large), "")); !slices.Equal(got, []string{offer(idsOf(some), "")}) {
		t.Error(got)
	}
	hex := strings.Split("0123456789abcdef", "")
	if got := answer(t, large, offer(idsOf(larger), "")); !slices.Equal(got, []string{offer(idsOf(large), hex...)}) {
		t.Error(got)
	}
	if got := answer(t, large, offer(idsOf(large), "")); len(got) != 0 {
		t.Error(got)
	}
	// The same number with another summary, and the same summary with another number.
	l := span(idsOf(large), "")
	for _, other := range [][]string{{"", "40", digest.Sum("x")}, {"", "41", l[2]}} {
		if got := answer(t, large, joined.Text(append([]string{"offer", "1"}, other...)...)); !slices.Equal(got, []string{offer(idsOf(large), hex...)}) {
			t.Error(got)
		}
	}
	// Several small ranges: what is sent comes first, each record once, then what is wanted, as often as it is found.
	foreign := records(3, 100)
	message := joined.Text(slices.Concat([]string{"offer", "2"}, span(idsOf(foreign), ""), span(idsOf(foreign), ""))...)
	var sorted []string
	for _, i := range idsOf(some) {
		sorted = append(sorted, some[slices.IndexFunc(some, func(s string) bool { return id(s) == i })])
	}
	if got := answer(t, some, message); !slices.Equal(got, append(sorted, want(append(idsOf(foreign), idsOf(foreign)...)...))) {
		t.Error(got)
	}
	prefix := id(some[0])[:3]
	if got := answer(t, some, offer(nil, prefix)); !slices.Equal(got, some[:1]) {
		t.Error(got)
	}
	if got := answer(t, some, offer(nil, id(some[2]), id(some[4]))); !slices.Equal(got, []string{some[2], some[4]}) {
		t.Error(got)
	}
	for _, c := range []struct {
		texts   int
		message string
		want    api.Errno
	}{{100001, none, api.ErrLimit}, {100000, none, api.OK}, {0, strings.Repeat("x", 20001), api.ErrLimit}, {0, strings.Repeat("x", 20000), api.OK}} {
		if got, err := net.Answer(make([]string, c.texts), c.message); len(got) != 0 || err != c.want {
			t.Error(c.texts, err)
		}
	}
}

// together returns the elements of messages behind their first ones, and checks that no message has room for more.
func together(t *testing.T, messages []string, word string, skip int, size func(l []string) int) []string {
	t.Helper()
	var all []string
	for i, m := range messages {
		l, ok := joined.List(m)
		if !ok || l[0] != word || len(m) > 18000 {
			t.Fatal(len(m), l[0])
		}
		if i+1 < len(messages) {
			next, _ := joined.List(messages[i+1])
			if rest := next[skip:]; len(m)+len(joined.Text(rest[:size(rest)]...)) <= 18000 {
				t.Fatal("room for more:", i, len(m))
			}
		}
		all = append(all, l[skip:]...)
	}
	return all
}

func TestDivided(t *testing.T) { // P53.1: BA5: messages of at most 18000 bytes
	// 60 ranges of 16 Ids, all of which are wanted, are more than one want has room for.
	var wanted []string
	l := []string{"offer", "60"}
	for i := range 60 {
		var ids []string
		for k := range 16 {
			ids = append(ids, fmt.Sprintf("%016d", 16*i+k))
		}
		l = append(append(l, "", "16", digest.List(ids)), ids...)
		wanted = append(wanted, ids...)
	}
	got := answer(t, nil, joined.Text(l...))
	if all := together(t, got, "want", 1, func([]string) int { return 1 }); len(got) != 2 || !slices.Equal(all, wanted) {
		t.Error("wants:", len(got))
	}
	// Many small ranges of a depot are more than one offer has room for.
	own := records(3000, 0)
	ids := idsOf(own)
	l = []string{"offer", "16"}
	var expected []string
	for _, p := range strings.Split("0123456789abcdef", "") {
		l = append(l, p, "17", digest.Sum("x"))
		for _, q := range strings.Split("0123456789abcdef", "") {
			expected = append(expected, span(ids, p+q)...)
		}
	}
	got = answer(t, own, joined.Text(l...))
	length := func(rest []string) int { return len(span(ids, rest[0])) }
	if all := together(t, got, "offer", 2, length); len(got) < 3 || !slices.Equal(all, expected) {
		t.Error("offers:", len(got))
	}
	for _, m := range got { // the number of ranges is right
		l, _ := joined.List(m)
		n := 0
		for rest := l[2:]; len(rest) > 0; rest = rest[length(rest):] {
			n++
		}
		if l[1] != fmt.Sprint(n) {
			t.Error(l[1], n)
		}
	}
	// What has no room at all does not occur: one range, or Id, is always sent.
	prefix := ids[0]
	if got := answer(t, own, joined.Text("offer", "1", prefix, "17", digest.Sum("x"))); !slices.Equal(got, []string{offer(ids, prefix)}) {
		t.Error(got)
	}
	if got := answer(t, own, joined.Text("offer", "1", prefix+"0", "17", digest.Sum("x"))); len(got) != 0 {
		t.Error("a prefix of 17 digits", got)
	}
}

func TestForeignMessages(t *testing.T) { // P53.6
	texts := records(20, 0)
	ids := idsOf(texts)
	good := span(ids[:3], "")
	change := func(f func(l []string) []string) string {
		return joined.Text(append([]string{"offer", "1"}, f(slices.Clone(good))...)...)
	}
	if len(answer(t, texts, change(func(l []string) []string { return l }))) == 0 {
		t.Error("a right offer")
	}
	for i, m := range []string{
		joined.Text("offer", "1", "", "16", digest.Sum("x")), joined.Text("offer", "1", "", "1", digest.List([]string{""}), ""), joined.Text("offer", "1", "x", "17", digest.Sum("x")), joined.Text("offer", "1", "0A", "17", digest.Sum("x")), joined.Text("offer", "1", "", "17"), joined.Text("offer", "1", "", "017", digest.Sum("x")),
		"", "x", "5:offer", want(), "4:want1:", want("x"), want(ids[0], "x"), want(strings.ToUpper(ids[0])), joined.Text("Want", ids[0]), joined.Text("offer"), joined.Text("offer", "0"), joined.Text("offer", "1"), texts[0], want(ids[0]) + "x", want(ids[0]) + "0:", joined.Text(append([]string{"offer", "2"}, good...)...), joined.Text(append([]string{"offer", "01"}, good...)...), joined.Text(append([]string{"offers", "1"}, good...)...),
		change(func(l []string) []string { l[0] = "x"; return l }), change(func(l []string) []string { l[0] = ids[0][:1]; return l }), change(func(l []string) []string { l[0] = "A"; return l }), change(func(l []string) []string {
			l[0] = "00000000000000000"
			l[1] = "0"
			l[2] = digest.List(nil)
			return l[:3]
		}), change(func(l []string) []string { l[1] = "2"; return l }), change(func(l []string) []string { l[1] = "03"; return l }), change(func(l []string) []string { l[1] = "-3"; return l }), change(func(l []string) []string { l[1] = "1000000"; return l[:3] }), change(func(l []string) []string { l[2] = digest.Sum("x"); return l }), change(func(l []string) []string { l[3], l[4] = l[4], l[3]; l[2] = digest.List(l[3:]); return l }), change(func(l []string) []string { l[4] = l[3]; l[2] = digest.List(l[3:]); return l }), change(func(l []string) []string { l[3] = "0"; l[2] = digest.List(l[3:]); return l }), change(func(l []string) []string { return append(l, ids[9]) }), change(func(l []string) []string { return l[:5] }), change(func(l []string) []string { return []string{"", "20", "x"} }),
	} {
		if got := answer(t, texts, m); len(got) != 0 {
			t.Error(i, got)
		}
	}
	if got := answer(t, texts, joined.Text("offer", "1", "", "999999", digest.Sum("x"))); len(got) == 0 {
		t.Error("a large range")
	}
}

func TestEqualSets(t *testing.T) { // P53.4 and P53.7
	for _, n := range []int{0, 5, 16, 17, 300} {
		texts := records(n, 0)
		other := slices.Clone(texts)
		slices.Reverse(other)
		message, _ := net.Offer(texts)
		if got := answer(t, append(other, texts...), message); len(got) != 0 {
			t.Error(n, len(got))
		}
	}
}

// exchange lets two depots answer each other, and returns how many messages there were.
func exchange(t *testing.T, a, b *[]string) int {
	t.Helper()
	first, _ := net.Offer(*a)
	inbox := [2][]string{nil, {first}}
	number := 0
	for len(inbox[0])+len(inbox[1]) > 0 {
		for i, own := range []*[]string{a, b} {
			if len(inbox[i]) == 0 {
				continue
			}
			m := inbox[i][0]
			inbox[i] = inbox[i][1:]
			number++
			if _, err := record.Parse(m); err == api.OK {
				if slices.Contains(*own, m) {
					t.Fatal("it was there")
				}
				*own = append(*own, m)
				continue
			}
			inbox[1-i] = append(inbox[1-i], answer(t, *own, m)...)
		}
	}
	return number
}

func TestExchange(t *testing.T) { // P53.5
	for _, c := range [][3]int{{0, 0, 0}, {5, 0, 0}, {0, 5, 0}, {3, 4, 10}, {0, 40, 0}, {40, 0, 0}, {1, 1, 300}, {30, 20, 300}, {200, 300, 5}} {
		both := records(c[2], 0)
		a, b := append(records(c[0], 1000), both...), append(slices.Clone(both), records(c[1], 2000)...)
		all := idsOf(append(slices.Clone(a), b...))
		exchange(t, &a, &b)
		if !slices.Equal(idsOf(a), all) || !slices.Equal(idsOf(b), all) {
			t.Error(c)
		}
	}
}
