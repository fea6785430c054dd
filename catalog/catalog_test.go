package catalog_test

import (
	"fmt"
	"math/rand"
	"reflect"
	"strings"
	"testing"

	"bogie/api"
	"bogie/catalog"
)

func parse(t *testing.T, s string) api.Catalog {
	t.Helper()
	c, err, at := catalog.Parse(s)
	if err != api.OK || at != 0 {
		t.Fatal(s, err, at)
	}
	return c
}

func kind(name string, vehicle bool, slots ...api.Slot) api.Kind {
	return api.Kind{Name: name, Vehicle: vehicle, Slots: slots}
}

func slot(name string, normal int, kinds ...string) api.Slot {
	return api.Slot{Name: name, Kinds: kinds, Normal: normal}
}

func of(l ...api.Kind) api.Catalog { return api.Catalog{Kinds: l} }

// example has the kinds of the document's example.
func example() api.Catalog {
	return of(kind("axle", false), kind("motor", false), kind("coach", true, slot("rear", 1, "axle"), slot("m", 1, "motor", "axle")))
}

// many returns kinds without slots.
func many(n int) api.Catalog {
	c := api.Catalog{}
	for i := range n {
		c.Kinds = append(c.Kinds, kind(fmt.Sprint("k", i), false))
	}
	return c
}

// wide returns a kind with many slots.
func wide(n int) api.Catalog {
	c := of(kind("a", false), kind("w", false))
	for i := range n {
		c.Kinds[1].Slots = append(c.Kinds[1].Slots, slot(fmt.Sprint("s", i), 1, "a"))
	}
	return c
}

func TestValid(t *testing.T) { // P8.1: H1
	axle, v := kind("axle", false), kind("v", true)
	for i, c := range []api.Catalog{{}, example(), many(60), wide(12), of(v), of(axle, kind("x", false, slot("axle", 1, "axle"), slot("x", 1, "axle")))} {
		if !catalog.Valid(c) {
			t.Error(i)
		}
	}
	for i, c := range []api.Catalog{
		many(61), wide(13), of(axle, axle), of(kind("", false)), of(kind("a-b", true)), of(axle, kind("x", false, slot("s", 1, "axle"), slot("s", 1, "axle"))),
		of(axle, kind("x", false, slot("", 1, "axle"))), of(kind("x", false, slot("s", 1, "axle")), axle), of(kind("x", false, slot("s", 1, "x"))), of(v, kind("x", false, slot("s", 1, "v"))),
		of(axle, kind("x", false, slot("s", 0, "axle"))), of(axle, kind("x", false, slot("s", 2, "axle"))), of(axle, kind("x", false, slot("s", 0))), of(axle, kind("x", false, slot("s", -1, "axle"))), of(axle, kind("x", false, slot("s", 1, "axle", "axle"))), of(axle, kind("x", false, slot("s", 1, "axle", ""))),
	} {
		if catalog.Valid(c) {
			t.Error(i)
		}
		if s, err := catalog.Text(c); s != "" || err != api.ErrArg {
			t.Error(i, s, err)
		}
	}
}

func TestFind(t *testing.T) { // P8.1: H1
	c := example()
	k, ok := catalog.Find(c, "coach")
	if !ok || !reflect.DeepEqual(k, c.Kinds[2]) {
		t.Error(k, ok)
	}
	k.Slots[1].Kinds[0] = "x" // a copy
	k.Slots[0].Name = "x"
	if !reflect.DeepEqual(c, example()) {
		t.Error("changed")
	}
	if k, ok := catalog.Find(c, "x"); ok || !reflect.DeepEqual(k, api.Kind{}) {
		t.Error(k, ok)
	}
	if k, ok := catalog.Find(of(kind("a", true), kind("a", false)), "a"); !ok || !k.Vehicle {
		t.Error(k, ok)
	}
}

func TestTakes(t *testing.T) { // P8.1: H2
	c := example()
	for _, x := range []struct {
		kind, slot, other string
		takes, normal     bool
	}{
		{"coach", "m", "motor", true, true}, {"coach", "m", "axle", true, false}, {"coach", "rear", "axle", true, true}, {"coach", "rear", "motor", false, false},
		{"coach", "x", "axle", false, false}, {"x", "m", "axle", false, false}, {"axle", "m", "axle", false, false}, {"coach", "m", "", false, false},
	} {
		if catalog.Takes(c, x.kind, x.slot, x.other) != x.takes || catalog.Normal(c, x.kind, x.slot, x.other) != x.normal {
			t.Error(x)
		}
	}
	odd := of(kind("k", false, slot("s", 9, "a"), slot("s", 1, "b"), slot("n", -3, "a")), kind("k", false, slot("z", 1, "a")))
	if !catalog.Normal(odd, "k", "s", "a") || catalog.Takes(odd, "k", "s", "b") || catalog.Normal(odd, "k", "n", "a") || !catalog.Takes(odd, "k", "n", "a") || catalog.Takes(odd, "k", "z", "a") {
		t.Error("catalogs that are not valid")
	}
}

func TestText(t *testing.T) { // P8.1: H3
	if s, err := catalog.Text(example()); s != "kind axle;\nkind motor;\nvehicle coach (rear: axle; m: motor + axle);\n" || err != api.OK {
		t.Error(s, err)
	}
	if s, err := catalog.Text(api.Catalog{}); s != "" || err != api.OK {
		t.Error(s, err)
	}
	c := wide(12)
	c.Kinds[0].Name = "b"
	for i := range c.Kinds[1].Slots {
		c.Kinds[1].Slots[i].Kinds[0] = "b"
	}
	if _, err := catalog.Text(c); err != api.OK {
		t.Error(err)
	}
	// 40 kinds with 12 slots, each of which takes all kinds before, have too many tokens; long names too many bytes.
	for _, name := range []string{"k%d", "a_name_with_24_letters%02d"} {
		big := api.Catalog{}
		var names []string
		kinds := 40
		if len(name) > 5 {
			kinds = 16
		}
		for i := range kinds {
			k := kind(fmt.Sprintf(name, i), false)
			for j := range 12 {
				if i > 0 {
					k.Slots = append(k.Slots, slot(fmt.Sprint("s", j), 1, names...))
				}
			}
			names = append(names, k.Name)
			big.Kinds = append(big.Kinds, k)
		}
		if s, err := catalog.Text(big); !catalog.Valid(big) || s != "" || err != api.ErrLimit {
			t.Error(catalog.Valid(big), len(s), err)
		}
	}
}

func TestParse(t *testing.T) { // P8.1: H4
	if c := parse(t, `kind axle; kind motor; vehicle coach (rear: axle; m: motor + axle);`); !reflect.DeepEqual(c, example()) {
		t.Error(c)
	}
	if c := parse(t, "kind kind; vehicle vehicle (kind: kind);"); len(c.Kinds) != 2 {
		t.Error(c)
	}
	sixty, _ := catalog.Text(many(60))
	slots, _ := catalog.Text(wide(12))
	slots = strings.TrimSuffix(slots, ");\n")
	for _, x := range []struct {
		s   string
		err api.Errno
		at  int
	}{
		{"kind a; kind a;", api.ErrTwice, 13}, {"vehicle v; kind b (s: v);", api.ErrKind, 22}, {"kind b (s: b);", api.ErrNone, 11}, {"kind a; kind b (s: a; s: a);", api.ErrTwice, 22}, {"kind a; kind b (s: a a);", api.ErrTwice, 21},
		{"kind a; kind b (s: a + a);", api.ErrTwice, 23}, {"kind a; kind b (s: +", api.ErrSyntax, 19}, {"kind a; kind b (s: a +)", api.ErrSyntax, 22}, {"kind a; kind b (s: a + + a", api.ErrSyntax, 23}, {"kind a; kind b ();", api.ErrSyntax, 16}, {"kind a; kind b (s: a;);", api.ErrSyntax, 21},
		{"kind a", api.ErrEnd, 6}, {"kind ", api.ErrEnd, 5}, {"kind a; kind b (s: a)", api.ErrEnd, 21}, {"kind a; kind b (s: ", api.ErrEnd, 19}, {"Kind a;", api.ErrSyntax, 0}, {"kind 7;", api.ErrSyntax, 5}, {"kind a:", api.ErrSyntax, 6}, {";", api.ErrSyntax, 0}, {`kind "a";`, api.ErrSyntax, 5}, {"kind a; kind b (s: a,", api.ErrSyntax, 20},
		{"kind a; kind a !", api.ErrChar, 15}, {"kind a; kind b (s a", api.ErrSyntax, 18}, {"kind b (s: c; s: c", api.ErrNone, 11},
		{sixty + "kind", api.ErrEnd, len(sixty) + 4}, {sixty + "kind k1", api.ErrLimit, len(sixty) + 5}, {sixty + "kind z", api.ErrLimit, len(sixty) + 5}, {sixty + "kind (", api.ErrSyntax, len(sixty) + 5},
		{slots + "; z", api.ErrLimit, len(slots) + 2}, {slots + "; s1", api.ErrLimit, len(slots) + 2}, {slots + ";", api.ErrEnd, len(slots) + 1}, {strings.Repeat(" ", 20001), api.ErrLimit, -1},
	} {
		if c, err, at := catalog.Parse(x.s); err != x.err || at != x.at || len(c.Kinds) != 0 {
			t.Error(x, err, at)
		}
	}
}

// random returns a valid catalog.
func random(r *rand.Rand) api.Catalog {
	c := api.Catalog{}
	var parts []string
	for i := range r.Intn(6) {
		k := kind(fmt.Sprint("k", i), r.Intn(3) == 0)
		for j := range r.Intn(4) {
			if len(parts) == 0 {
				break
			}
			r.Shuffle(len(parts), func(a, b int) { parts[a], parts[b] = parts[b], parts[a] })
			l := append([]string{}, parts[:1+r.Intn(len(parts))]...)
			k.Slots = append(k.Slots, slot(fmt.Sprint("s", j), 1+r.Intn(len(l)), l...))
		}
		if !k.Vehicle {
			parts = append(parts, k.Name)
		}
		c.Kinds = append(c.Kinds, k)
	}
	return c
}

func TestTexts(t *testing.T) { // P8.2
	r := rand.New(rand.NewSource(1))
	seen := map[string]api.Catalog{}
	for range 1000 {
		c := random(r)
		s, err := catalog.Text(c)
		if err != api.OK {
			t.Fatal(c, err)
		}
		if got := parse(t, s); !reflect.DeepEqual(got, c) || !catalog.Valid(got) {
			t.Fatal(s, got)
		}
		if old, ok := seen[s]; ok && !reflect.DeepEqual(old, c) {
			t.Fatal(s)
		}
		seen[s] = c
	}
}

func TestGaps(t *testing.T) { // P8.3
	r := rand.New(rand.NewSource(2))
	for range 300 {
		c := random(r)
		s, _ := catalog.Text(c)
		for _, wide := range []string{strings.NewReplacer(" ", "\n # x\n\t", ";", " ; ", ":", " : ").Replace(s), strings.ReplaceAll(s, "\n", ""), "# x\n" + s + "# y"} {
			if got := parse(t, wide); !reflect.DeepEqual(got, c) {
				t.Fatal(wide)
			}
		}
	}
}

func TestOrder(t *testing.T) { // P8.4
	r := rand.New(rand.NewSource(3))
	for range 300 {
		c := random(r)
		for i, k := range c.Kinds {
			for _, s := range k.Slots {
				for j, other := range c.Kinds {
					takes := catalog.Takes(c, k.Name, s.Name, other.Name)
					if takes && (j >= i || other.Vehicle) || catalog.Normal(c, k.Name, s.Name, other.Name) && !takes {
						t.Fatal(c, k, s, other)
					}
				}
			}
		}
	}
}

func TestBeginnings(t *testing.T) { // P8.5
	r := rand.New(rand.NewSource(4))
	for range 200 {
		c := random(r)
		for n := range len(c.Kinds) {
			part := of(c.Kinds[:n]...)
			if !catalog.Valid(part) {
				t.Fatal(part)
			}
			for _, k := range part.Kinds {
				for _, s := range k.Slots {
					for _, other := range part.Kinds {
						if catalog.Takes(c, k.Name, s.Name, other.Name) != catalog.Takes(part, k.Name, s.Name, other.Name) || catalog.Normal(c, k.Name, s.Name, other.Name) != catalog.Normal(part, k.Name, s.Name, other.Name) {
							t.Fatal(part, k, s, other)
						}
					}
				}
			}
		}
	}
}

func TestTogether(t *testing.T) { // P8.6
	r := rand.New(rand.NewSource(5))
	for range 300 {
		c := random(r)
		n := r.Intn(len(c.Kinds) + 1)
		all, _ := catalog.Text(c)
		first, _ := catalog.Text(of(c.Kinds[:n]...))
		if !strings.HasPrefix(all, first) {
			t.Fatal(all, first)
		}
		apart := of(kind("z", false), kind("y", true, slot("s", 1, "z")))
		second, _ := catalog.Text(apart)
		both, err := catalog.Text(of(append(c.Kinds, apart.Kinds...)...))
		if err != api.OK || both != all+second {
			t.Fatal(both, all, second)
		}
	}
}
