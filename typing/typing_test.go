package typing_test

import (
	"fmt"
	"math/rand"
	"slices"
	"strings"
	"testing"

	"bogie/api"
	"bogie/fleet"
	"bogie/life"
	"bogie/meaning"
	"bogie/sample"
	"bogie/typing"
)

var small = sample.Catalog("kind axle; kind bogie (a: axle; b: axle); vehicle coach (front: bogie);")

// deep has kinds with more and more parts inside.
func deep(levels int) api.Catalog {
	text := "kind k0;"
	for i := range levels {
		text += fmt.Sprintf("kind k%d (", i+1)
		for j := range 12 {
			text += fmt.Sprintf("s%d: k%d;", j, i)
		}
		text = strings.TrimSuffix(text, ";") + ");"
	}
	return sample.Catalog(text)
}

func TestCheck(t *testing.T) { // P21.1: U1
	for _, c := range []struct {
		rule string
		want api.Errno
	}{
		{"for coach: at least 2 axle", api.OK}, {"for coach: at least 3 axle", api.ErrRange}, {"for coach: all axle (slot a is axle)", api.ErrName}, {"for coach: slot front is axle", api.ErrKind}, {"for coach: over miles 5", api.ErrName},
		{"for coach: slot front is bogie", api.OK}, {"for coach: slot rear is bogie", api.ErrName}, {"for coach: slot rear is x", api.ErrName}, {"for coach: slot front is x", api.ErrKind}, {"for bus: true", api.ErrKind}, {"for bus: over miles 5", api.ErrKind},
		{"for coach: any bogie (slot b is axle)", api.OK}, {"for coach: any coach (true)", api.ErrKind}, {"for axle: all axle (true)", api.ErrKind}, {"for bogie: all axle (limit km 5)", api.OK}, {"for bogie: at least 1 bogie", api.ErrKind}, {"for bogie: at least 9 coach", api.ErrKind}, {"for coach: at least 1 bogie", api.OK}, {"for coach: at least 2 bogie", api.ErrRange},
		{"for coach: all axle (any axle (true))", api.ErrKind}, {"for coach: all bogie (any axle (over x 5))", api.ErrName}, {"for coach: not (limit x 5 or at least 9 axle)", api.ErrName}, {"for coach: at least 9 axle and limit x 5", api.ErrRange}, {"for coach: all bogie (at least 3 axle)", api.ErrRange},
		{"for coach: has miles and batch = \"A\"", api.OK}, {"for coach: limit km 1 and limit cycles 1 and limit damage 1 and limit days 1 and over age 1", api.OK},
	} {
		if got := typing.Check(small, sample.Rule("rule r "+c.rule+";")); got != c.want {
			t.Error(c, got)
		}
	}
	good := sample.Rule("rule r for coach: true;")
	if typing.Check(small, api.Rule{}) != api.ErrArg || typing.Check(api.Catalog{Kinds: []api.Kind{{}}}, good) != api.ErrArg || typing.Check(api.Catalog{}, good) != api.ErrKind {
		t.Error("arguments")
	}
	// The greatest number is the greatest one of the kinds of a slot, and the sum over the slots.
	mixed := sample.Catalog("kind a; kind b (x: a; y: a); kind c (x: a; y: a; z: a); vehicle v (p: b c a; q: a + b);")
	for text, want := range map[string]api.Errno{"5 a": api.OK, "6 a": api.ErrRange, "2 b": api.OK, "3 b": api.ErrRange, "1 c": api.OK, "2 c": api.ErrRange} {
		if got := typing.Check(mixed, sample.Rule("rule r for v: at least "+text+";")); got != want {
			t.Error(text, got)
		}
	}
	for i, want := range []int{1, 12, 144, 1728, 20736, 248832, 2985984} {
		kind := fmt.Sprint("k", i)
		if got := typing.Check(deep(6), sample.Rule(fmt.Sprintf("rule r for %s: at least %d k0;", kind, max(want, 1)))); i > 0 && got != api.OK {
			t.Error(kind, got)
		}
		if got := typing.Check(deep(6), sample.Rule(fmt.Sprintf("rule r for %s: at least %d k0;", kind, want+1))); i > 0 && got != api.ErrRange {
			t.Error(kind, got)
		}
	}
	if got := typing.Check(deep(55), sample.Rule("rule r for k55: at least 9999999 k0;")); got != api.OK {
		t.Error(got)
	}
}

func TestKinds(t *testing.T) { // P21.1: U2
	for kind, want := range map[string][]string{"coach": {"axle", "bogie"}, "bogie": {"axle"}, "axle": nil, "x": nil, "": nil} {
		if got := typing.Kinds(small, kind); !slices.Equal(got, want) {
			t.Error(kind, got)
		}
	}
	if got := typing.Kinds(sample.Catalog("kind z; kind b (s: z); kind a (s: z + b);"), "a"); !slices.Equal(got, []string{"b", "z"}) {
		t.Error(got)
	}
	if got := typing.Kinds(api.Catalog{Kinds: append(small.Kinds, api.Kind{})}, "coach"); len(got) != 0 {
		t.Error(got)
	}
}

func TestCurrencies(t *testing.T) { // P21.1: U3, and P21.6
	cond := sample.Rule("rule r for a: limit km 5 and not over age 3 or all b (limit x 5 or any c (over km 5 and has days));").Cond
	if got := typing.Currencies(cond); !slices.Equal(got, []string{"age", "km", "x"}) {
		t.Error(got)
	}
	if got := typing.Currencies(sample.Rule("rule r for a: has km;").Cond); len(got) != 0 {
		t.Error(got)
	}
	if got := typing.Currencies(api.Expr{Op: api.ExprAnd, Kids: cond.Kids[:1]}); len(got) != 0 {
		t.Error(got)
	}
	r := rand.New(rand.NewSource(1))
	for range 500 {
		e := sample.RandomCond(r.Intn, 3)
		got := typing.Currencies(e)
		all := got
		for _, kid := range e.Kids {
			for _, name := range typing.Currencies(kid) {
				if !slices.Contains(got, name) {
					t.Fatal(e, name)
				}
			}
		}
		unknown := api.Rule{Name: "r", Kind: "coach", Cond: api.Expr{Op: api.ExprOr, Kids: []api.Expr{e, {Op: api.ExprOver, Name: "miles"}}}}
		if len(typing.Currencies(unknown.Cond)) == len(all)+1 && typing.Check(sample.Kinds(), unknown) == api.OK {
			t.Fatal(unknown)
		}
	}
}

func TestInside(t *testing.T) { // P21.2
	kinds := sample.Kinds()
	r := rand.New(rand.NewSource(2))
	for range 60 {
		s := api.State{}
		for _, e := range sample.RandomEvents(r.Intn, 30) {
			if next, err := fleet.Apply(kinds, s, e); err == api.OK {
				s = next
			}
		}
		for _, p := range s.Parts {
			for _, name := range fleet.Inside(s, p.Name) {
				q, _ := fleet.Find(s, name)
				if !slices.Contains(typing.Kinds(kinds, p.Kind), q.Kind) {
					t.Fatal(p, q)
				}
			}
			many := sample.Rule("rule r for coach: at least 4 axle;").Cond
			if p.Kind == "coach" && meaning.Holds(s, many, p.Name, 5) == api.Yes {
				t.Fatal(p)
			}
		}
	}
	if typing.Check(kinds, sample.Rule("rule r for coach: at least 4 axle;")) != api.ErrRange || typing.Check(kinds, sample.Rule("rule r for coach: at least 3 axle;")) != api.OK {
		t.Error("at most three axles are in a coach")
	}
}

func TestPartsOfConditions(t *testing.T) { // P21.3
	kinds := sample.Kinds()
	r := rand.New(rand.NewSource(3))
	found := map[api.Errno]int{}
	for range 2000 {
		e := sample.RandomCond(r.Intn, 3)
		check := func(e api.Expr) api.Errno {
			return typing.Check(kinds, api.Rule{Name: "r", Kind: "coach", Cond: e})
		}
		if e.Op != api.ExprNot && e.Op != api.ExprAnd && e.Op != api.ExprOr || check(e) == api.ErrArg {
			continue
		}
		want := api.OK
		for _, kid := range e.Kids {
			if want == api.OK {
				want = check(kid)
			}
		}
		found[want]++
		if got := check(e); got != want {
			t.Fatal(e, got, want)
		}
	}
	if len(found) < 4 {
		t.Error("too few cases:", found)
	}
}

func TestFurtherKinds(t *testing.T) { // P21.4
	kinds := sample.Kinds()
	more := sample.Kinds()
	more.Kinds = append(more.Kinds, sample.Catalog("kind axle; kind x (s: axle); vehicle y (s: x);").Kinds[1:]...)
	r := rand.New(rand.NewSource(4))
	for range 500 {
		p := api.Rule{Name: "r", Kind: "coach", Cond: sample.RandomCond(r.Intn, 3)}
		if typing.Check(kinds, p) != typing.Check(more, p) {
			t.Fatal(p)
		}
	}
	for _, k := range kinds.Kinds {
		if !slices.Equal(typing.Kinds(kinds, k.Name), typing.Kinds(more, k.Name)) {
			t.Error(k)
		}
	}
}

func TestNestedKinds(t *testing.T) { // P21.5
	for _, c := range []api.Catalog{sample.Kinds(), small, deep(5)} {
		for _, k := range c.Kinds {
			inside := typing.Kinds(c, k.Name)
			if slices.Contains(inside, k.Name) {
				t.Error(k)
			}
			for _, name := range inside {
				if name == "coach" {
					t.Error("a vehicle is inside", k)
				}
				for _, inner := range typing.Kinds(c, name) {
					if !slices.Contains(inside, inner) {
						t.Error(k, name, inner)
					}
				}
			}
		}
	}
	for _, name := range []string{"km", "cycles", "damage", "days", "age", "miles"} { // P21.6
		want := api.ErrName
		if life.Is(name) {
			want = api.OK
		}
		if got := typing.Check(small, sample.Rule("rule r for axle: limit "+name+" 5;")); got != want {
			t.Error(name, got)
		}
	}
}
