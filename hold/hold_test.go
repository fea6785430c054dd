package hold_test

import (
	"fmt"
	"math/rand"
	"reflect"
	"slices"
	"testing"

	"bogie/api"
	"bogie/hold"
)

// made returns a record that makes a hold on v1.
func made(members ...int) api.Record {
	return api.Record{Kind: api.RecHold, Name: "v1", Members: members, Author: 9}
}

func back(id string, author int) api.Record {
	return api.Record{Kind: api.RecBack, Target: id, Author: author}
}

// shown returns holds as a text.
func shown(l []api.Hold) string {
	s := ""
	for _, h := range l {
		s += fmt.Sprint(h.Id, " ", h.Vehicle, " ", h.Members, " ", h.Back, " ", hold.Out(h), "; ")
	}
	return s
}

func TestAll(t *testing.T) { // P39.1: AM1
	odd := made(1)
	odd.Kind = api.RecReport
	for i, c := range []struct {
		ids  []string
		l    []api.Record
		want string
	}{
		{[]string{"h", "a"}, []api.Record{made(1, 2), back("h", 1)}, "h v1 [1 2] [1] true; "}, {[]string{"h", "a", "b", "c"}, []api.Record{made(1, 2), back("h", 1), back("h", 2), back("h", 3)}, "h v1 [1 2] [1 2] false; "}, {[]string{"a", "h"}, []api.Record{back("h", 1), made(1)}, "h v1 [1] [] true; "},
		{[]string{"h", "h", "a"}, []api.Record{made(1), made(2), back("h", 2)}, "h v1 [1] [] true; "}, {[]string{"h", "h"}, []api.Record{made(), made(2)}, "h v1 [2] [] true; "}, {[]string{"h"}, []api.Record{odd}, ""}, {[]string{"h", "h"}, []api.Record{odd, made(1)}, "h v1 [1] [] true; "}, {[]string{"h", "a", "b"}, []api.Record{made(1, 2), back("h", 2), back("h", 1)}, "h v1 [1 2] [2 1] false; "}, {[]string{"h", "a", "a"}, []api.Record{made(1, 2), back("h", 2), back("h", 2)}, "h v1 [1 2] [2] true; "},
		{[]string{"h"}, []api.Record{made(1), back("h", 1)}, ""}, {nil, nil, ""}, {[]string{"h"}, nil, ""}, {[]string{"b", "a", "c", "d"}, []api.Record{made(3), made(1), back("a", 1), back("x", 1)}, "b v1 [3] [] true; a v1 [1] [1] false; "}, {[]string{"h", "a"}, []api.Record{made(1), {Kind: api.RecClear, Target: "h", Author: 1}}, "h v1 [1] [] true; "}, {[]string{"", ""}, []api.Record{made(1, 1), back("", 1)}, " v1 [1 1] [1] false; "},
	} {
		if got := shown(hold.All(c.ids, c.l)); got != c.want {
			t.Error(i, got)
		}
	}
	l := []api.Record{made(1, 2)}
	got := hold.All([]string{"h"}, l)
	got[0].Members[0] = 7
	if l[0].Members[0] != 1 {
		t.Error("shared memory")
	}
}

func TestOn(t *testing.T) { // P39.1: AM2
	l := []api.Hold{{Id: "a", Vehicle: "v", Members: []int{1}}, {Id: "b", Vehicle: "v", Members: []int{1, 2}, Back: []int{2, 1}}, {Id: "c", Vehicle: "w", Members: []int{1}}, {Id: "d", Vehicle: "v", Members: []int{1, 2}, Back: []int{2, 3}}, {Id: "e", Vehicle: "v"}}
	got := hold.On(l, "v")
	if !reflect.DeepEqual(got, []api.Hold{l[0], l[3]}) {
		t.Error(got)
	}
	got[1].Back[0] = 7
	if l[3].Back[0] != 2 || len(hold.On(l, "x")) != 0 || len(hold.On(nil, "v")) != 0 || hold.Out(l[4]) || hold.Out(api.Hold{}) || !hold.Out(l[0]) || hold.Out(l[1]) {
		t.Error("Out, or shared memory")
	}
}

// each calls a function with random records, and their Ids.
func each(seed int64, check func(r *rand.Rand, ids []string, l []api.Record)) {
	r := rand.New(rand.NewSource(seed))
	for range 500 {
		var ids []string
		var l []api.Record
		for range r.Intn(10) {
			id, rec := string(rune('a'+r.Intn(6))), back(string(rune('a'+r.Intn(6))), r.Intn(4))
			if r.Intn(3) == 0 {
				rec = made([][]int{{0}, {0, 1}, {1, 2, 3}, nil}[r.Intn(4)]...)
			}
			ids, l = append(ids, id), append(l, rec)
		}
		check(r, ids, l)
	}
}

func TestGivingBack(t *testing.T) { // P39.2, P39.3 and P39.6
	each(1, func(r *rand.Rand, ids []string, l []api.Record) {
		before := hold.All(ids, l)
		rec := back(string(rune('a'+r.Intn(6))), r.Intn(4))
		want := hold.All(ids, l)
		for i, h := range want {
			if h.Id == rec.Target && slices.Contains(h.Members, rec.Author) && !slices.Contains(h.Back, rec.Author) {
				want[i].Back = append(want[i].Back, rec.Author)
			}
		}
		if got := hold.All(append(slices.Clone(ids), "z"), append(slices.Clone(l), rec)); shown(got) != shown(want) {
			t.Fatal(ids, l, rec, got, want)
		}
		for _, h := range before {
			if hold.Out(h) != (len(h.Back) < len(h.Members)) {
				t.Fatal("not everybody:", h)
			}
		}
		fresh := api.Hold{Id: "z", Vehicle: "v1", Members: []int{0, 5}}
		if got := hold.All(append(slices.Clone(ids), "z"), append(slices.Clone(l), made(0, 5))); shown(got) != shown(append(before, fresh)) || !hold.Out(got[len(got)-1]) {
			t.Fatal("a new hold:", ids, l, got)
		}
	})
}

func TestOnceAndTooEarly(t *testing.T) { // P39.4, P39.5 and P39.7
	each(2, func(r *rand.Rand, ids []string, l []api.Record) {
		if len(l) == 0 {
			return
		}
		all := shown(hold.All(ids, l))
		i := r.Intn(len(l))
		if l[i].Kind != api.RecHold {
			if got := shown(hold.All(slices.Insert(slices.Clone(ids), i, ids[i]), slices.Insert(slices.Clone(l), i, l[i]))); got != all {
				t.Fatal("repeated:", ids, l, i, got)
			}
		}
		// What is given back before anything is made does not count.
		early := append([]api.Record{back("a", 0), back("b", 1)}, l...)
		if got := shown(hold.All(append([]string{"y", "z"}, ids...), early)); got != all {
			t.Fatal("too early:", ids, l, got)
		}
		// Without the records of a member, its holds are out.
		var kept []api.Record
		var keptIds []string
		for j := range l {
			if l[j].Author != 1 {
				kept, keptIds = append(kept, l[j]), append(keptIds, ids[j])
			}
		}
		for _, h := range hold.All(keptIds, kept) {
			if slices.Contains(h.Members, 1) && !hold.Out(h) {
				t.Fatal("nobody else:", kept, h)
			}
		}
	})
}
