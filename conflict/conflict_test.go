package conflict_test

import (
	"fmt"
	"math/rand"
	"slices"
	"strings"
	"testing"

	"bogie/api"
	"bogie/conflict"
	"bogie/fleet"
	"bogie/meaning"
	"bogie/rule"
	"bogie/sample"
)

// rules returns the rules a, b and so on for coaches with some conditions.
func rules(conds ...string) []api.Rule {
	var l []api.Rule
	for i, c := range conds {
		l = append(l, sample.Rule(fmt.Sprintf("rule %c for coach: %s;", 'a'+i, c)))
	}
	return l
}

func TestContradictionValues(t *testing.T) { // P24.1: X1
	for _, c := range []struct {
		conds []string
		want  string
	}{
		{[]string{"limit km 5", "over km 9", "has x"}, "ab"}, {[]string{"limit km 9", "over km 8"}, ""}, {[]string{"limit km 8 plus 1", "over km 8"}, ""}, {[]string{"limit km 7 plus 1", "over km 8"}, "ab"}, {[]string{`x = "1"`, "has y", `x = "2"`, "not has x"}, "cd"}, {[]string{"limit km 5 or over km 5"}, ""},
		{[]string{`x = "1"`, `x = "2"`}, "ab"}, {[]string{`x = "1"`, `not x = "2"`}, ""}, {[]string{`not x = "1"`, `not x = "2"`, "has x"}, ""}, {[]string{`x = "1"`, `y = "2"`}, ""}, {[]string{"limit km 5", "over cycles 9"}, ""},
		{[]string{"not true"}, "a"}, {[]string{"true", "not true", "not true"}, "c"}, {nil, ""}, {[]string{"true"}, ""}, {[]string{"has x and not has x"}, "a"},
		{[]string{"any axle (true)", "not any axle (true)"}, "ab"}, {[]string{"any axle (true)", "not any axle (has x)"}, ""}, {[]string{"any axle (true)", "not any motor (true)"}, ""}, {[]string{"any axle (true)", "not all axle (true)"}, ""}, {[]string{"slot s is k", "not slot s is k"}, "ab"}, {[]string{"slot s is k", "slot s is l"}, ""}, {[]string{"at least 2 axle", "not at least 1 axle"}, ""}, {[]string{"at least 2 axle", "not at least 2 axle"}, "ab"},
		{[]string{"has x or has y", "not has x", "not has y", "has z"}, "abc"}, {[]string{"over km 0", "limit km 0", "limit km 0"}, "ac"}, {[]string{"all axle (not true)"}, ""}, {[]string{"has km", "limit km 5", "not has km"}, "ac"}, {[]string{"has x", `not x = "1"`, "limit x 5"}, ""},
	} {
		got, is := conflict.Contradiction(rules(c.conds...), "coach")
		if strings.Join(got, "") != c.want || is != (c.want != "") {
			t.Error(c, got, is)
		}
		if got, is := conflict.Contradiction(rules(c.conds...), "axle"); is || len(got) != 0 {
			t.Error(c, got)
		}
	}
	mixed := append(rules("limit km 5", "over km 5"), api.Rule{Name: "z", Kind: "coach"})
	mixed[1].Kind = "axle"
	if got, is := conflict.Contradiction(mixed, "coach"); is || len(got) != 0 {
		t.Error(got)
	}
}

// limits returns a condition with different limits of a currency, all of which are kept only if nothing was used.
func limits(currency string, from, n int) string {
	var l []string
	for i := range n {
		l = append(l, fmt.Sprintf("limit %s %d", currency, from+i))
	}
	return strings.Join(l, " and ")
}

func TestTooMany(t *testing.T) { // P24.1: X1 and X2
	// 64 * 64 cases are not too many; with one more limit they are.
	conds := []string{limits("km", 0, 40), limits("km", 40, 23), limits("age", 0, 40), limits("age", 40, 23), "over km 5"}
	if got, is := conflict.Contradiction(rules(conds...), "coach"); !is || strings.Join(got, "") != "ae" {
		t.Error(got, is)
	}
	if got, is := conflict.Contradiction(rules(append(conds, "limit km 63")...), "coach"); is || len(got) != 0 {
		t.Error(got, is)
	}
	if got, is := conflict.Contradiction(rules(append(conds, "has x")...), "coach"); is || len(got) != 0 {
		t.Error(got, is)
	}
	var wholes []string
	for i := range 13 {
		wholes = append(wholes, fmt.Sprintf("at least %d axle or not at least %d axle", i+1, i+1))
	}
	for n, want := range map[int]string{12: "a", 13: ""} {
		if got := conflict.Dead(rules("(" + strings.Join(wholes[:n], ") and (") + ")")); strings.Join(got, "") != want {
			t.Error(n, got)
		}
	}
	// Far too many cases are too many, too.
	var far []string
	for i := range 4 {
		c := "true"
		for k := range 20 {
			c += fmt.Sprintf(" and at least %d axle", 1+20*i+k)
		}
		far = append(far, c)
	}
	if got, is := conflict.Contradiction(rules(append(far, "not true")...), "coach"); is || len(got) != 0 {
		t.Error(got, is)
	}
	// A property counts one more than its values, and nothing; it is 2 without values.
	var is []string
	for i := range 30 {
		is = append(is, fmt.Sprintf("x = \"%d\"", i))
	}
	texts := strings.Join(is, " or ")
	for n, want := range map[int]bool{7: true, 8: false} { // 32 * 128, 32 * 256
		conds := []string{texts, "not has x", "true"}
		for i := range n {
			conds[2] += fmt.Sprintf(" and has y%d", i)
		}
		if _, got := conflict.Contradiction(rules(conds...), "coach"); got != want {
			t.Error(n, got)
		}
	}
}

func TestDead(t *testing.T) { // P24.1: X2
	l := rules("limit km 5 or over km 5", "true", "has x", "has x or not has x", `x = "1" or not has x`, "limit km 5 or over km 4", "limit km 5 or over km 6", "not (at least 1 axle and not at least 1 axle)", "at least 1 axle or true", "all axle (true)", `not (x = "1" and x = "2")`)
	l = append(l, api.Rule{Name: "z", Kind: "k"}, l[1])
	if got := strings.Join(conflict.Dead(l), ""); got != "abdfhikb" {
		t.Error(got)
	}
	bad := rules("true", "not true")
	bad[0].Name, bad[1].Name = "", "a b" // rules that are not valid are left out
	if got := conflict.Dead(bad); len(got) != 0 {
		t.Error(got)
	}
	if got, is := conflict.Contradiction(bad, "coach"); is || len(got) != 0 {
		t.Error(got)
	}
	if got := conflict.Dead(nil); len(got) != 0 {
		t.Error(got)
	}
}

// each calls a function with random rules for coaches.
func each(seed int64, check func(r *rand.Rand, l []api.Rule)) {
	r := rand.New(rand.NewSource(seed))
	for range 400 {
		var l []api.Rule
		for i := range 1 + r.Intn(5) {
			p := api.Rule{Name: fmt.Sprint("r", i), Kind: "coach", Cond: sample.RandomCond(r.Intn, 1+r.Intn(2))}
			if r.Intn(3) == 0 && i > 0 {
				p.Cond = api.Expr{Op: api.ExprNot, Kids: []api.Expr{l[r.Intn(i)].Cond}}
			}
			l = append(l, p)
		}
		check(r, l)
	}
}

// named returns the rules with some names.
func named(l []api.Rule, names []string) []api.Rule {
	return slices.DeleteFunc(slices.Clone(l), func(r api.Rule) bool { return !slices.Contains(names, r.Name) })
}

func TestMinimal(t *testing.T) { // P24.2, P24.5 and P24.6
	found := 0
	each(1, func(r *rand.Rand, l []api.Rule) {
		names, is := conflict.Contradiction(l, "coach")
		if is != (len(names) > 0) {
			t.Fatal(l, names)
		}
		other := slices.Clone(l)
		r.Shuffle(len(other), func(i, j int) { other[i], other[j] = other[j], other[i] })
		other = append(other, api.Rule{Name: "k", Kind: "axle", Cond: sample.Rule("rule k for axle: not true;").Cond})
		if _, again := conflict.Contradiction(other, "coach"); again != is {
			t.Fatal("another order:", l)
		}
		if !is {
			return
		}
		found++
		if _, still := conflict.Contradiction(named(l, names), "coach"); !still {
			t.Fatal("not a contradiction:", l, names)
		}
		for i := range names {
			if _, still := conflict.Contradiction(named(l, slices.Delete(slices.Clone(names), i, i+1)), "coach"); still {
				t.Fatal("not minimal:", l, names)
			}
		}
		if _, still := conflict.Contradiction(append(slices.Clone(l), sample.Rule("rule z for coach: has z;")), "coach"); !still && len(l) < 4 {
			t.Fatal("a further rule:", l)
		}
	})
	if found < 50 {
		t.Error("too few contradictions:", found)
	}
}

func TestNoPart(t *testing.T) { // P24.3
	kinds := sample.Kinds()
	each(2, func(r *rand.Rand, l []api.Rule) {
		s := api.State{}
		for _, e := range sample.RandomEvents(r.Intn, 20) {
			if next, err := fleet.Apply(kinds, s, e); err == api.OK {
				s = next
			}
		}
		names, is := conflict.Contradiction(l, "coach")
		dead := conflict.Dead(l)
		for _, p := range s.Parts {
			met := true
			for _, q := range named(l, names) {
				met = met && meaning.Holds(s, q.Cond, p.Name, 20) == api.Yes
			}
			if is && met {
				t.Fatal("a part meets all:", p, l, names)
			}
			for _, q := range named(l, dead) {
				if meaning.Holds(s, q.Cond, p.Name, 20) == api.No {
					t.Fatal("a part does not meet a dead rule:", p, q)
				}
			}
		}
	})
}

func TestNegations(t *testing.T) { // P24.4
	each(3, func(_ *rand.Rand, l []api.Rule) {
		not := l[0]
		not.Name = "not"
		not.Cond = api.Expr{Op: api.ExprNot, Kids: []api.Expr{l[0].Cond}}
		if !rule.Valid(not) {
			return
		}
		if _, is := conflict.Contradiction([]api.Rule{l[0], not}, "coach"); !is {
			t.Fatal(l[0])
		}
		_, never := conflict.Contradiction([]api.Rule{not}, "coach")
		if (len(conflict.Dead(l[:1])) == 1) != never {
			t.Fatal(l[0])
		}
	})
}

func TestLimits(t *testing.T) { // P24.7
	for _, n := range []int{0, 1, 7, 9999999} {
		limit := fmt.Sprintf("limit km %d", n)
		if _, is := conflict.Contradiction(rules(limit, fmt.Sprintf("over km %d", n)), "coach"); !is {
			t.Error(n)
		}
		if n > 0 {
			if _, is := conflict.Contradiction(rules(limit, fmt.Sprintf("over km %d", n-1)), "coach"); is {
				t.Error(n)
			}
		}
	}
}
