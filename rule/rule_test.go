package rule_test

import (
	"math/rand"
	"reflect"
	"strings"
	"testing"

	"bogie/api"
	"bogie/rule"
	"bogie/sample"
)

func of(e api.Expr) api.Rule { return api.Rule{Name: "r", Kind: "axle", Cond: e} }

func node(op int, kids ...api.Expr) api.Expr { return api.Expr{Op: op, Kids: kids} }

var yes = node(api.ExprTrue)

// valid returns conditions with all their fields.
func valid() []api.Expr {
	return []api.Expr{
		yes, node(api.ExprNot, yes), node(api.ExprAnd, yes, yes), node(api.ExprOr, yes, yes, yes), {Op: api.ExprLimit, Name: "km", N: 5, Extra: 7}, {Op: api.ExprOver, Name: "km", N: 5},
		{Op: api.ExprIs, Name: "batch", Value: "A"}, {Op: api.ExprHas, Name: "batch"}, {Op: api.ExprFitted, Name: "front", Value: "axle"}, {Op: api.ExprAll, Name: "axle", Kids: []api.Expr{yes}}, {Op: api.ExprAny, Name: "axle", Kids: []api.Expr{yes}}, {Op: api.ExprCount, Name: "axle", N: 5},
	}
}

func ands(n int) api.Expr {
	e := api.Expr{Op: api.ExprAnd}
	for range n {
		e.Kids = append(e.Kids, yes)
	}
	return e
}

func TestValid(t *testing.T) { // P20.1: T1
	good := append(valid(), ands(59), api.Expr{Op: api.ExprCount, Name: "axle", N: 1}, api.Expr{Op: api.ExprCount, Name: "axle", N: 9999999}, api.Expr{Op: api.ExprLimit, Name: "true"}, api.Expr{Op: api.ExprLimit, Name: "km", N: 9999999, Extra: 9999999}, api.Expr{Op: api.ExprHas, Name: "not"}, api.Expr{Op: api.ExprIs, Name: "is", Value: strings.Repeat("x", 200)}, api.Expr{Op: api.ExprFitted, Name: "at", Value: "and"})
	for _, e := range good {
		if !rule.Valid(of(e)) || rule.Valid(api.Rule{Kind: "a", Cond: e}) || rule.Valid(api.Rule{Name: "a", Cond: e}) || rule.Valid(api.Rule{Name: "a b", Kind: "a", Cond: e}) {
			t.Error(e)
		}
	}
	has := func(op int, fields ...int) bool {
		for _, f := range fields {
			if f == op {
				return true
			}
		}
		return false
	}
	var bad []api.Expr
	for _, e := range valid() {
		change := func(f func(e *api.Expr)) {
			e := e
			f(&e)
			bad = append(bad, e)
		}
		change(func(e *api.Expr) { e.N = -1 })
		change(func(e *api.Expr) { e.N = 10000000 })
		change(func(e *api.Expr) { e.Extra = -1 })
		change(func(e *api.Expr) { e.Extra = 10000000 })
		change(func(e *api.Expr) { e.Name = "a-b" })
		change(func(e *api.Expr) { e.Kids = append([]api.Expr{{}}, e.Kids...) })
		if e.Op <= api.ExprOr {
			change(func(e *api.Expr) { e.Name = "x" })
		} else {
			change(func(e *api.Expr) { e.Name = "" })
		}
		if !has(e.Op, api.ExprLimit, api.ExprOver, api.ExprCount) {
			change(func(e *api.Expr) { e.N = 1 })
		}
		if e.Op != api.ExprLimit {
			change(func(e *api.Expr) { e.Extra = 1 })
		}
		if has(e.Op, api.ExprIs, api.ExprFitted) {
			change(func(e *api.Expr) { e.Value = "" })
		} else {
			change(func(e *api.Expr) { e.Value = "x" })
		}
		if len(e.Kids) > 0 {
			change(func(e *api.Expr) { e.Kids = nil })
			change(func(e *api.Expr) { e.Kids = []api.Expr{{}} })
		} else {
			change(func(e *api.Expr) { e.Kids = []api.Expr{yes} })
		}
	}
	loop := node(api.ExprNot, yes)
	loop.Kids[0] = loop
	bad = append(bad, api.Expr{}, node(13), node(-1), ands(60), node(api.ExprAnd, yes), node(api.ExprNot, yes, yes), api.Expr{Op: api.ExprCount, Name: "a"}, api.Expr{Op: api.ExprIs, Name: "a", Value: strings.Repeat("x", 201)}, api.Expr{Op: api.ExprFitted, Name: "a", Value: "b c"}, api.Expr{Op: api.ExprAll, Name: "a", Kids: []api.Expr{yes, yes}}, loop)
	for _, word := range strings.Fields("true not and or limit over has slot all any at") {
		bad = append(bad, api.Expr{Op: api.ExprIs, Name: word, Value: "A"})
	}
	for i, e := range bad {
		s, err := rule.Text(of(e))
		if rule.Valid(of(e)) || s != "" || err != api.ErrArg {
			t.Error(i)
		}
		if s, err := rule.Text(of(node(api.ExprAnd, yes, e))); s != "" || err != api.ErrArg {
			t.Error(i)
		}
	}
}

func TestText(t *testing.T) { // P20.1: T2
	for text, cond := range map[string]api.Expr{
		"true":                         yes,
		"not not true":                 node(api.ExprNot, node(api.ExprNot, yes)),
		"not (true and true)":          node(api.ExprNot, ands(2)),
		"(true and true) or true":      node(api.ExprOr, ands(2), yes),
		"(true or true) and not true":  node(api.ExprAnd, node(api.ExprOr, yes, yes), node(api.ExprNot, yes)),
		"(true and true) and true":     node(api.ExprAnd, ands(2), yes),
		"limit km 5 plus 7":            valid()[4],
		"limit km 5":                   {Op: api.ExprLimit, Name: "km", N: 5},
		"over km 5":                    valid()[5],
		`batch = "A\"\n"`:              {Op: api.ExprIs, Name: "batch", Value: "A\"\n"},
		"has batch":                    valid()[7],
		"slot front is axle":           valid()[8],
		"all axle (true and true)":     {Op: api.ExprAll, Name: "axle", Kids: []api.Expr{ands(2)}},
		"any axle (true)":              valid()[10],
		"true and any axle (not true)": node(api.ExprAnd, yes, api.Expr{Op: api.ExprAny, Name: "axle", Kids: []api.Expr{node(api.ExprNot, yes)}}),
		"at least 5 axle":              valid()[11],
	} {
		s, err := rule.Text(of(cond))
		if want := "rule r for axle: " + text + ";\n"; s != want || err != api.OK {
			t.Error(text, s, err)
		}
	}
	long := ands(59)
	for i := range long.Kids {
		long.Kids[i] = api.Expr{Op: api.ExprIs, Name: "batch", Value: strings.Repeat("\n", 160)}
	}
	// 59 times 330 bytes, 5 between two of them, and 19 more are 19779 bytes.
	if s, err := rule.Text(of(long)); len(s) != 19779 || err != api.OK {
		t.Error(len(s), err)
	}
	for i := range 12 {
		long.Kids[i].Value = strings.Repeat("\n", 169)
	}
	long.Kids[12].Value = strings.Repeat("\n", 162) + "x"
	if s, err := rule.Text(of(long)); len(s) != 20000 || err != api.OK {
		t.Error(len(s), err)
	}
	long.Kids[13].Value += "x"
	if s, err := rule.Text(of(long)); s != "" || err != api.ErrLimit {
		t.Error(len(s), err)
	}
}

func TestParse(t *testing.T) { // P20.1: T3
	r, err, at := rule.Parse("rule r for coach: limit km 800000 plus 20000 and not (has batch or all wheelset (over days 5));")
	if r.Name != "r" || r.Kind != "coach" || r.Cond.Op != api.ExprAnd || r.Cond.Kids[0].Op != api.ExprLimit || r.Cond.Kids[1].Op != api.ExprNot || err != api.OK || at != 0 {
		t.Error(r, err, at)
	}
	for text, cond := range map[string]api.Expr{
		"true and true or true and true": node(api.ExprOr, ands(2), ands(2)), "limit km 5 plus 0": {Op: api.ExprLimit, Name: "km", N: 5}, "limit limit 5": {Op: api.ExprLimit, Name: "limit", N: 5}, "slot is is is": {Op: api.ExprFitted, Name: "is", Value: "is"},
		"not true and true": node(api.ExprAnd, node(api.ExprNot, yes), yes), `plus="A"`: {Op: api.ExprIs, Name: "plus", Value: "A"}, `rule="A"`: {Op: api.ExprIs, Name: "rule", Value: "A"}, "has true": {Op: api.ExprHas, Name: "true"}, "at least 007 at": {Op: api.ExprCount, Name: "at", N: 7}, "((true))": yes,
	} {
		if r, err, at := rule.Parse("rule r for axle: " + text + ";"); !reflect.DeepEqual(r, of(cond)) || err != api.OK || at != 0 {
			t.Error(text, r, err, at)
		}
	}
	long := "rule r for a: true" + strings.Repeat(" and true", 59)
	for _, c := range []struct {
		s   string
		err api.Errno
		at  int
	}{
		{`rule r for axle: batch = "";`, api.ErrRange, 25}, {"rule r for axle: at least 0 axle;", api.ErrRange, 26}, {"rule r for axle: at least 000 7", api.ErrRange, 26}, {"rule r for axle: not", api.ErrEnd, 20}, {`rule r for axle: batch = "` + strings.Repeat("x", 201) + `" !`, api.ErrChar, 229}, {`rule r for axle: batch = "` + strings.Repeat("x", 201) + `" 7`, api.ErrRange, 25},
		{"", api.ErrEnd, 0}, {"rule", api.ErrEnd, 4}, {"rules r", api.ErrSyntax, 0}, {"rule 7", api.ErrSyntax, 5}, {"rule r of", api.ErrSyntax, 7}, {"rule r for a true", api.ErrSyntax, 13}, {"rule r for a: true", api.ErrEnd, 18}, {"rule r for a: true; rule", api.ErrSyntax, 20}, {"rule r for a: ;", api.ErrSyntax, 14},
		{"rule r for a: and", api.ErrSyntax, 14}, {"rule r for a: or = \"A\"", api.ErrSyntax, 14}, {"rule r for a: true = \"A\"", api.ErrSyntax, 19}, {"rule r for a: b \"A\"", api.ErrSyntax, 16}, {"rule r for a: b = A", api.ErrSyntax, 18}, {"rule r for a: b = 7", api.ErrSyntax, 18}, {"rule r for a: 7", api.ErrSyntax, 14}, {"rule r for a: limit km", api.ErrEnd, 22}, {"rule r for a: limit 5", api.ErrSyntax, 20}, {"rule r for a: limit km 5 plus;", api.ErrSyntax, 29},
		{"rule r for a: over km 5 plus 7", api.ErrSyntax, 24}, {"rule r for a: slot s axle", api.ErrSyntax, 21}, {"rule r for a: all axle true", api.ErrSyntax, 23}, {"rule r for a: any axle (true", api.ErrEnd, 28}, {"rule r for a: at most", api.ErrSyntax, 17}, {"rule r for a: at least axle", api.ErrSyntax, 23}, {"rule r for a: (true;", api.ErrSyntax, 19}, {"rule r for a: true);", api.ErrSyntax, 18}, {"rule r for a: true true", api.ErrSyntax, 19}, {"rule r for a: has;", api.ErrSyntax, 17}, {"rule r for a: not and", api.ErrSyntax, 18},
		{long + ";", api.ErrLimit, 0}, {long, api.ErrEnd, len(long)}, {long + ")", api.ErrSyntax, len(long)}, {strings.Repeat(" ", 20001), api.ErrLimit, -1}, {"rule r for a: limit km 12345678;", api.ErrNumber, 23},
	} {
		if r, err, at := rule.Parse(c.s); err != c.err || at != c.at || !reflect.DeepEqual(r, api.Rule{}) {
			t.Errorf("%.60q: %d, %d", c.s, err, at)
		}
	}
}

// each calls a function with random valid rules and their texts.
func each(t *testing.T, seed int64, check func(r *rand.Rand, rule api.Rule, text string)) {
	t.Helper()
	r := rand.New(rand.NewSource(seed))
	for range 500 {
		p := api.Rule{Name: "r", Kind: "coach", Cond: sample.RandomCond(r.Intn, 3)}
		if s, err := rule.Text(p); err == api.OK {
			check(r, p, s)
		} else if rule.Valid(p) {
			t.Fatal(p, err)
		}
	}
}

func TestTexts(t *testing.T) { // P20.2
	seen := map[string]api.Rule{}
	each(t, 1, func(_ *rand.Rand, p api.Rule, s string) {
		got, err, at := rule.Parse(s)
		if !reflect.DeepEqual(got, p) || err != api.OK || at != 0 || !rule.Valid(got) {
			t.Fatal(s, got, err, at)
		}
		if old, ok := seen[s]; ok && !reflect.DeepEqual(old, p) {
			t.Fatal(s)
		}
		seen[s] = p
	})
}

func TestGaps(t *testing.T) { // P20.3
	each(t, 2, func(_ *rand.Rand, p api.Rule, s string) {
		cond := strings.TrimSuffix(strings.TrimPrefix(s, "rule r for coach: "), ";\n")
		for _, wide := range []string{strings.ReplaceAll(s, " ", " # x\n\t"), "rule r for coach:(" + cond + ")  ;", "rule r for coach : ((" + cond + "));#"} {
			if got, err, at := rule.Parse(wide); !reflect.DeepEqual(got, p) || err != api.OK || at != 0 {
				t.Fatal(wide, got, err)
			}
		}
	})
}

func TestParts(t *testing.T) { // P20.4
	each(t, 3, func(_ *rand.Rand, p api.Rule, _ string) {
		for _, kid := range p.Cond.Kids {
			if !rule.Valid(of(kid)) {
				t.Fatal(kid)
			}
			if both := node(api.ExprAnd, kid, yes); !rule.Valid(of(node(api.ExprNot, kid))) || !rule.Valid(of(both)) {
				t.Fatal(kid)
			}
		}
	})
}

func TestBeginnings(t *testing.T) { // P20.5
	each(t, 4, func(r *rand.Rand, _ api.Rule, s string) {
		words := strings.Fields(s)
		i := r.Intn(len(words))
		words[i] = []string{"7", "0", `""`, "and", ";", "(", "x"}[r.Intn(7)]
		_, err, at := rule.Parse(strings.Join(words, " "))
		if err != api.ErrSyntax && err != api.ErrRange {
			return
		}
		text := strings.Join(words, " ")
		end := at + 1
		for end < len(text) && text[at] != ';' && text[at] != '(' && text[end] != ' ' && text[end] != ';' && text[end] != ')' && text[end] != ':' && text[end] != '(' {
			end++
		}
		for _, more := range []string{"", " )", " rule", " true;"} {
			if _, err2, at2 := rule.Parse(text[:end] + more); err2 != err || at2 != at {
				t.Fatalf("%q %q: %d %d, %d %d", text[:end], more, err, at, err2, at2)
			}
		}
		if _, err2, _ := rule.Parse(text[:at]); err2 != api.OK && err2 != api.ErrEnd {
			t.Fatal(text[:at], err2)
		}
	})
}

func TestNames(t *testing.T) { // P20.6
	each(t, 5, func(_ *rand.Rand, p api.Rule, s string) {
		rest := strings.TrimPrefix(s, "rule r for coach: ")
		p.Name, p.Kind = "other", "not"
		if got, err := rule.Text(p); got != "rule other for not: "+rest || err != api.OK || !rule.Valid(p) {
			t.Fatal(got, err)
		}
	})
}
