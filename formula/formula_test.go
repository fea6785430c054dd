package formula_test

import (
	"math"
	"math/big"
	"math/rand"
	"reflect"
	"strings"
	"testing"

	"bogie/api"
	"bogie/formula"
)

func number(n int) api.Formula { return api.Formula{Op: api.FormNumber, N: n} }

func node(op int, kids ...api.Formula) api.Formula { return api.Formula{Op: op, Kids: kids} }

func in(low, high int) api.Interval { return api.Interval{Low: low, High: high} }

func use(km, cycles, load api.Interval) api.Use {
	return api.Use{Km: km, Cycles: cycles, Load: load}
}

var km, cycles, load = node(api.FormKm), node(api.FormCycles), node(api.FormLoad)

// random returns a valid formula with at most some levels.
func random(r *rand.Rand, levels int) api.Formula {
	if levels == 0 || r.Intn(4) == 0 {
		return []api.Formula{km, cycles, load, number(r.Intn(4)), number(r.Intn(api.MaxNumber + 1))}[r.Intn(5)]
	}
	op := api.FormAdd + r.Intn(7)
	kids := 2
	if op == api.FormIf {
		kids = 3
	}
	f := api.Formula{Op: op}
	for range kids {
		f.Kids = append(f.Kids, random(r, levels-1))
	}
	return f
}

func parse(t *testing.T, s string) api.Formula {
	f, err, at := formula.Parse(s)
	if err != api.OK || at != 0 {
		t.Fatal(s, err, at)
	}
	return f
}

func chainOf(nodes int) api.Formula {
	f := km
	for n := 1; n < nodes; n += 2 {
		f = node(api.FormAdd, f, km)
	}
	return f
}

func TestValid(t *testing.T) { // P7.1: G1
	loop := node(api.FormIf, km, km, km)
	loop.Kids[0].Kids = loop.Kids
	loop.Kids[0].Op = api.FormIf
	for i, f := range []api.Formula{{}, node(-1), node(99), node(api.FormKm, km), node(api.FormAdd, km), node(api.FormAdd, km, km, km), node(api.FormIf, km, km), number(-1), number(api.MaxNumber + 1), {Op: api.FormKm, N: 1}, {Op: api.FormMin, N: 1, Kids: []api.Formula{km, km}}, node(api.FormAdd, km, number(-1)), chainOf(61), node(api.FormAdd, chainOf(59), node(api.FormAdd, km, km)), loop} {
		if formula.Valid(f) {
			t.Error(i)
		}
		if s, err := formula.Text(f); s != "" || err != api.ErrArg {
			t.Error(i, s, err)
		}
		if formula.Value(f, 1, 2, 3) != 0 || formula.Damage(f, api.Use{}) != (api.Interval{}) {
			t.Error(i)
		}
	}
	for i, f := range []api.Formula{number(0), number(api.MaxNumber), km, cycles, load, chainOf(59), node(api.FormIf, chainOf(57), km, km), node(api.FormMax, km, load)} {
		if !formula.Valid(f) {
			t.Error(i)
		}
	}
}

func TestParse(t *testing.T) { // P7.1: G2
	for s, want := range map[string]api.Formula{
		"km + cycles * load":   node(api.FormAdd, km, node(api.FormMul, cycles, load)),
		"km - cycles - load":   node(api.FormSub, node(api.FormSub, km, cycles), load),
		"km/(cycles*load)":     node(api.FormDiv, km, node(api.FormMul, cycles, load)),
		"km*cycles/load":       node(api.FormDiv, node(api.FormMul, km, cycles), load),
		"(km - 1) * 2":         node(api.FormMul, node(api.FormSub, km, number(1)), number(2)),
		"min(km,max(1,2))":     node(api.FormMin, km, node(api.FormMax, number(1), number(2))),
		"if(km,cycles,(load))": node(api.FormIf, km, cycles, load),
		"9999999":              number(9999999),
		"007":                  number(7),
		"km - (cycles + load)": node(api.FormSub, km, node(api.FormAdd, cycles, load)),
		"km + cycles - load":   node(api.FormSub, node(api.FormAdd, km, cycles), load),
	} {
		if f := parse(t, s); !reflect.DeepEqual(f, want) {
			t.Error(s, f)
		}
	}
	deep := strings.Repeat("(", 2400)
	for _, c := range []struct {
		s   string
		err api.Errno
		at  int
	}{
		{"", api.ErrEnd, 0}, {" ", api.ErrEnd, 1}, {"km +", api.ErrEnd, 4}, {"km km", api.ErrSyntax, 3}, {"+", api.ErrSyntax, 0}, {"min", api.ErrEnd, 3}, {"min(1", api.ErrEnd, 5}, {"min(1)", api.ErrSyntax, 5}, {"min 1", api.ErrSyntax, 4},
		{"min(1,2,3)", api.ErrSyntax, 7}, {"if(1,2)", api.ErrSyntax, 6}, {"if(1,2,3", api.ErrEnd, 8}, {"(km", api.ErrEnd, 3}, {"km)", api.ErrSyntax, 2}, {"()", api.ErrSyntax, 1}, {"Km", api.ErrSyntax, 0}, {"x", api.ErrSyntax, 0}, {`"km"`, api.ErrSyntax, 0}, {"-1", api.ErrSyntax, 0}, {"km,", api.ErrSyntax, 2}, {"km + ) !", api.ErrChar, 7},
		{"12345678", api.ErrNumber, 0}, {"km !", api.ErrChar, 3}, {strings.Repeat(" ", 20001), api.ErrLimit, -1}, {strings.Repeat("a", 25), api.ErrLimit, 0}, {"km" + strings.Repeat("+km", 30), api.ErrLimit, 0}, {"km" + strings.Repeat("+km", 30) + ")", api.ErrSyntax, 92}, {"km" + strings.Repeat("+km", 30) + "+", api.ErrEnd, 93},
		{deep + "km" + strings.Repeat(")", 2400), api.OK, 0}, {deep, api.ErrEnd, 2400},
	} {
		f, err, at := formula.Parse(c.s)
		if err != c.err || at != c.at || err != api.OK && !reflect.DeepEqual(f, api.Formula{}) {
			t.Errorf("%.30q: %d, %d", c.s, err, at)
		}
	}
}

func TestTexts(t *testing.T) { // P7.2
	for want, f := range map[string]api.Formula{
		"km + cycles + load":       node(api.FormAdd, node(api.FormAdd, km, cycles), load),
		"km + (cycles - load)":     node(api.FormAdd, km, node(api.FormSub, cycles, load)),
		"km * (cycles / load)":     node(api.FormMul, km, node(api.FormDiv, cycles, load)),
		"km * cycles / load":       node(api.FormDiv, node(api.FormMul, km, cycles), load),
		"(km + cycles) * load":     node(api.FormMul, node(api.FormAdd, km, cycles), load),
		"load / (km - 0)":          node(api.FormDiv, load, node(api.FormSub, km, number(0))),
		"km * load - load / 2":     node(api.FormSub, node(api.FormMul, km, load), node(api.FormDiv, load, number(2))),
		"min(km + 1, if(1, 2, 3))": node(api.FormMin, node(api.FormAdd, km, number(1)), node(api.FormIf, number(1), number(2), number(3))),
		"max(km, cycles)":          node(api.FormMax, km, cycles),
	} {
		if s, err := formula.Text(f); s != want || err != api.OK {
			t.Error(want, s, err)
		}
	}
	r := rand.New(rand.NewSource(1))
	seen := map[string]api.Formula{}
	for range 3000 {
		f := random(r, 4)
		s, err := formula.Text(f)
		if err != api.OK {
			continue // too many nodes
		}
		if g := parse(t, s); !reflect.DeepEqual(f, g) {
			t.Fatal(s, f, g)
		}
		if old, ok := seen[s]; ok && !reflect.DeepEqual(f, old) {
			t.Fatal(s)
		}
		seen[s] = f
	}
}

func TestGaps(t *testing.T) { // P7.3
	r := rand.New(rand.NewSource(2))
	for range 300 {
		f := random(r, 3)
		s, _ := formula.Text(f)
		if s == "" {
			continue
		}
		for _, wide := range []string{"(" + s + ")", "((" + s + "))", " " + s + "#\n", strings.ReplaceAll(s, " ", " # +\n\t"), strings.ReplaceAll(s, " ", "")} {
			if g := parse(t, wide); !reflect.DeepEqual(f, g) {
				t.Fatal(wide)
			}
		}
	}
}

// exact computes a formula with numbers of any size, which it saturates.
func exact(f api.Formula, known map[int]int) *big.Int {
	saturated := func(n *big.Int) *big.Int {
		most := big.NewInt(api.MaxAmount)
		if n.CmpAbs(most) > 0 {
			return most.Mul(most, big.NewInt(int64(n.Sign())))
		}
		return n
	}
	if f.Op == api.FormNumber {
		return big.NewInt(int64(f.N))
	}
	if len(f.Kids) == 0 {
		return saturated(big.NewInt(int64(known[f.Op])))
	}
	a, b := exact(f.Kids[0], known), exact(f.Kids[1], known)
	less := a.Cmp(b) < 0
	switch f.Op {
	case api.FormAdd:
		a.Add(a, b)
	case api.FormSub:
		a.Sub(a, b)
	case api.FormMul:
		a.Mul(a, b)
	case api.FormDiv:
		if b.Sign() == 0 {
			return b
		}
		if b.Sign() < 0 { // big's division rounds down for positive divisors
			a.Neg(a)
			b.Neg(b)
		}
		a.Div(a, b)
	case api.FormMin:
		if !less {
			return b
		}
	case api.FormMax:
		if less {
			return b
		}
	case api.FormIf:
		if a.Sign() > 0 {
			return b
		}
		return exact(f.Kids[2], known)
	}
	return saturated(a)
}

func TestValue(t *testing.T) { // P7.1: G3, and P7.7
	f := parse(t, "km + cycles * max(load - 200, 0) / 100")
	if n := formula.Value(f, 1000, 3, 500); n != 1009 {
		t.Error(n)
	}
	for s, want := range map[string]int{"(0 - 7) / 2": -4, "7 / (0 - 2)": -4, "(0-7)/(0-2)": 3, "7 / 0": 0, "(0-8)/2": -4, "km": api.MaxAmount, "cycles": -api.MaxAmount, "km * km": api.MaxAmount, "km * cycles": -api.MaxAmount, "cycles - km": -api.MaxAmount, "km + 1": api.MaxAmount, "if(0, 1, 2)": 2, "if(cycles, 1, 2)": 2, "if(1, 3, 2)": 3, "min(1, 2)": 1, "max(1, 2)": 2} {
		if n := formula.Value(parse(t, s), math.MaxInt, math.MinInt, 5); n != want {
			t.Error(s, n, want)
		}
	}
	r := rand.New(rand.NewSource(3))
	for range 3000 {
		f := random(r, 3)
		if !formula.Valid(f) {
			continue
		}
		known := map[int]int{api.FormKm: r.Intn(2000000) - 1000000, api.FormCycles: r.Intn(9) - 4, api.FormLoad: int(r.Uint64())}
		n := formula.Value(f, known[api.FormKm], known[api.FormCycles], known[api.FormLoad])
		if want := exact(f, known); want.Cmp(big.NewInt(int64(n))) != 0 {
			t.Fatal(f, known, n, want)
		}
		if n > api.MaxAmount || n < -api.MaxAmount {
			t.Fatal(f, n)
		}
	}
}

func randomUse(r *rand.Rand) api.Use {
	one := func() api.Interval {
		most := []int{4, 1000, 1000001}[r.Intn(3)]
		a, b := r.Intn(most), r.Intn(most)
		return in(min(a, b), max(a, b))
	}
	return use(one(), one(), one())
}

func within(r *rand.Rand, i api.Interval) int { return i.Low + r.Intn(i.High-i.Low+1) }

func TestDamage(t *testing.T) { // P7.1: G4, and P7.7
	for _, c := range []struct {
		f    string
		u    api.Use
		want api.Interval
	}{
		{"km + cycles * max(load - 200, 0) / 100", use(in(1000, 1000), in(3, 4), in(150, 500)), in(1000, 1012)},
		{"if(load - 10, km, 0)", use(in(7, 7), in(0, 0), in(5, 20)), in(0, 7)},
		{"if(load - 10, km, 0)", use(in(7, 7), in(0, 0), in(11, 20)), in(7, 7)},
		{"if(load - 10, km, 3)", use(in(7, 7), in(0, 0), in(5, 10)), in(3, 3)},
		{"km / (cycles - 2)", use(in(10, 20), in(1, 4), in(0, 0)), in(0, 20)},
		{"0 - km / (cycles - 2)", use(in(10, 20), in(1, 4), in(0, 0)), in(0, 20)},
		{"km / cycles", use(in(10, 20), in(0, 3), in(0, 0)), in(0, 20)},
		{"(km - 15) / cycles", use(in(10, 20), in(2, 3), in(0, 0)), in(0, 2)},
		{"km - 15", use(in(10, 20), in(2, 3), in(0, 0)), in(0, 5)},
		{"0 - km", use(in(10, 20), in(2, 3), in(0, 0)), in(0, 0)},
		{"min(km, cycles)", use(in(1, 9), in(2, 3), in(0, 0)), in(1, 3)},
		{"max(km, cycles)", use(in(1, 9), in(2, 3), in(0, 0)), in(2, 9)},
		{"7", use(in(1, 9), in(2, 3), in(0, 0)), in(7, 7)},
		{"km * km * km", use(in(0, 1000000), in(0, 0), in(0, 0)), in(0, api.MaxAmount)},
	} {
		if got := formula.Damage(parse(t, c.f), c.u); got != c.want {
			t.Error(c, got)
		}
	}
	for _, u := range []api.Use{use(in(1, 0), in(0, 0), in(0, 0)), use(in(0, 0), in(-1, 0), in(0, 0)), use(in(0, 0), in(0, 0), in(0, 1000001)), use(in(1000001, 1000000), in(0, 0), in(0, 0))} {
		if got := formula.Damage(number(7), u); got != (api.Interval{}) {
			t.Error(u, got)
		}
	}
	if got := formula.Damage(km, use(in(1000000, 1000000), in(0, 0), in(0, 0))); got != in(1000000, 1000000) {
		t.Error(got)
	}
}

func TestContained(t *testing.T) { // P7.4, P7.5 and P7.7
	r := rand.New(rand.NewSource(4))
	for range 5000 {
		f, u := random(r, 3), randomUse(r)
		if !formula.Valid(f) {
			continue
		}
		d := formula.Damage(f, u)
		if d.Low < 0 || d.Low > d.High || d.High > api.MaxAmount {
			t.Fatal(f, u, d)
		}
		a, b, c := within(r, u.Km), within(r, u.Cycles), within(r, u.Load)
		n := max(formula.Value(f, a, b, c), 0)
		if n < d.Low || n > d.High {
			t.Fatal(f, u, a, b, c, n, d)
		}
		if e := formula.Damage(f, use(in(a, a), in(b, b), in(c, c))); e != in(n, n) {
			t.Fatal(f, a, b, c, n, e)
		}
	}
}

func TestLeastQuotients(t *testing.T) { // P7.1: G4, for all small numbers
	f := parse(t, "(km - 4) / (cycles - 3)")
	for a := range 9 {
		for b := a; b < 9; b++ {
			for c := range 7 {
				for d := c; d < 7; d++ {
					low, high := math.MaxInt, math.MinInt
					for x := a; x <= b; x++ {
						for y := c; y <= d; y++ {
							n := formula.Value(f, x, y, 0)
							low, high = min(low, n), max(high, n)
						}
					}
					if got := formula.Damage(f, use(in(a, b), in(c, d), in(0, 0))); got != in(max(low, 0), max(high, 0)) {
						t.Fatal(a, b, c, d, got, low, high)
					}
				}
			}
		}
	}
}

func TestParts(t *testing.T) { // P7.6
	r := rand.New(rand.NewSource(5))
	for range 5000 {
		f, u := random(r, 3), randomUse(r)
		if !formula.Valid(f) {
			continue
		}
		part := func(i api.Interval) api.Interval {
			a, b := within(r, i), within(r, i)
			return in(min(a, b), max(a, b))
		}
		small, all := formula.Damage(f, use(part(u.Km), part(u.Cycles), part(u.Load))), formula.Damage(f, u)
		if small.Low < all.Low || small.High > all.High {
			t.Fatal(f, u, small, all)
		}
	}
}
