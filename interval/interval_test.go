package interval_test

import (
	"math"
	"math/big"
	"math/rand"
	"testing"

	"bogie/api"
	"bogie/interval"
)

const most = api.MaxAmount

type (
	span  = api.Interval
	truth = api.Truth
)

func in(low, high int) span { return span{Low: low, High: high} }

func TestValid(t *testing.T) { // P4.1: D1
	for i, want := range map[span]bool{
		{}: true, {Low: 1, High: 0}: false, {Low: -most, High: most}: true, {Low: -most - 1}: false,
		{High: most + 1}: false, {Low: most, High: most}: true, {Low: math.MinInt, High: math.MaxInt}: false, {Low: math.MinInt, High: math.MinInt}: false,
	} {
		if interval.Valid(i) != want {
			t.Error(i)
		}
	}
}

func TestValues(t *testing.T) { // P4.1: D2
	for _, c := range []struct{ a, b, add, sub, mul, join span }{
		{in(1, 3), in(-2, 5), in(-1, 8), in(-4, 5), in(-6, 15), in(-2, 5)},
		{in(-3, -1), in(-2, 5), in(-5, 4), in(-8, 1), in(-15, 6), in(-3, 5)},
		{in(most, most), in(-most, most), in(0, most), in(0, most), in(-most, most), in(-most, most)},
		{in(-most, -most), in(2, 3), in(2-most, 3-most), in(-most, -most), in(-most, -most), in(-most, 3)},
		{in(1000000, 1000001), in(1000000, 1000000), in(2000000, 2000001), in(0, 1), in(most, most), in(1000000, 1000001)},
		{in(999999, 999999), in(1000000, 1000000), in(1999999, 1999999), in(-1, -1), in(most-1000000, most-1000000), in(999999, 1000000)},
	} {
		if g := interval.Add(c.a, c.b); g != c.add {
			t.Error("Add", c, g)
		}
		if g := interval.Sub(c.a, c.b); g != c.sub {
			t.Error("Sub", c, g)
		}
		if g := interval.Mul(c.a, c.b); g != c.mul {
			t.Error("Mul", c, g)
		}
		if g := interval.Join(c.a, c.b); g != c.join {
			t.Error("Join", c, g)
		}
	}
	for _, bad := range []span{in(1, 0), in(math.MinInt, 0), in(0, math.MaxInt), in(most+1, most+1)} {
		for name, f := range operations() {
			if f(bad, in(1, 2)) != (span{}) || f(in(1, 2), bad) != (span{}) {
				t.Error(name, bad)
			}
		}
	}
}

func operations() map[string]func(a, b span) span {
	return map[string]func(a, b span) span{"Add": interval.Add, "Sub": interval.Sub, "Mul": interval.Mul, "Join": interval.Join}
}

// exact computes an operation of numbers, and saturates.
func exact(name string, x, y int) int {
	a, b := big.NewInt(int64(x)), big.NewInt(int64(y))
	switch name {
	case "Add":
		a.Add(a, b)
	case "Sub":
		a.Sub(a, b)
	case "Mul":
		a.Mul(a, b)
	}
	if a.Cmp(big.NewInt(most)) > 0 {
		return most
	}
	if a.Cmp(big.NewInt(-most)) < 0 {
		return -most
	}
	return int(a.Int64())
}

func random(r *rand.Rand) span {
	n := []int{5, 2000000, most}[r.Intn(3)]
	a, b := r.Intn(2*n+1)-n, r.Intn(2*n+1)-n
	return in(min(a, b), max(a, b))
}

func within(r *rand.Rand, i span) int { return i.Low + r.Intn(i.High-i.Low+1) }

func TestElements(t *testing.T) { // P4.2
	r := rand.New(rand.NewSource(1))
	for range 3000 {
		a, b := random(r), random(r)
		x, y := within(r, a), within(r, b)
		for name, f := range operations() {
			got := f(a, b)
			for _, z := range []int{exact(name, x, y), exact(name, a.Low, y), exact(name, x, b.High)} {
				if z < got.Low || z > got.High {
					t.Fatal(name, a, b, got, z)
				}
			}
			if name == "Join" && (y < got.Low || y > got.High) {
				t.Fatal(name, a, b, got, y)
			}
		}
	}
}

func TestBounds(t *testing.T) { // P4.3
	r := rand.New(rand.NewSource(2))
	for range 3000 {
		a, b := random(r), random(r)
		for name, f := range operations() {
			low, high := false, false
			got := f(a, b)
			for _, x := range []int{a.Low, a.High} {
				for _, y := range []int{b.Low, b.High} {
					z := exact(name, x, y)
					low = low || z == got.Low || name == "Join" && y == got.Low
					high = high || z == got.High || name == "Join" && y == got.High
				}
			}
			if !low || !high {
				t.Fatal(name, a, b, got)
			}
		}
	}
}

func TestOrder(t *testing.T) { // P4.4
	r := rand.New(rand.NewSource(3))
	for range 1000 {
		a, b, c := random(r), random(r), random(r)
		if interval.Add(a, b) != interval.Add(b, a) || interval.Mul(a, b) != interval.Mul(b, a) || interval.Join(a, b) != interval.Join(b, a) {
			t.Fatal("order", a, b)
		}
		if interval.Join(a, interval.Join(b, c)) != interval.Join(interval.Join(a, b), c) || interval.Join(a, a) != a {
			t.Fatal("join", a, b, c)
		}
	}
}

func TestParts(t *testing.T) { // P4.5
	r := rand.New(rand.NewSource(4))
	for range 2000 {
		a, b := random(r), random(r)
		x, y := within(r, a), within(r, a)
		part := in(min(x, y), max(x, y))
		for name, f := range operations() {
			small, all := f(part, b), f(a, b)
			if small.Low < all.Low || small.High > all.High {
				t.Fatal(name, part, a, b, small, all)
			}
		}
	}
}

func TestOver(t *testing.T) { // P4.6
	for _, c := range []struct {
		i    span
		n    int
		want truth
	}{
		{in(3, 7), 5, api.Maybe}, {in(3, 7), 2, api.Yes}, {in(3, 7), 7, api.No}, {in(3, 7), 3, api.Maybe}, {in(3, 7), 6, api.Maybe},
		{in(4, 4), 4, api.No}, {in(4, 4), 3, api.Yes}, {in(7, 3), 0, api.No}, {in(0, most+1), 0, api.No},
		{in(0, 1), math.MaxInt, api.No}, {in(0, 1), math.MinInt, api.Yes},
	} {
		if got := interval.Over(c.i, c.n); got != c.want {
			t.Error(c, got)
		}
	}
	r := rand.New(rand.NewSource(5))
	for range 1000 {
		i := random(r)
		n := within(r, i) + r.Intn(3) - 1
		got := interval.Over(i, n)
		if (got == api.Yes) != (i.Low > n) || (got != api.No) != (i.High > n) || interval.Over(i, n+1) > got {
			t.Fatal(i, n, got)
		}
	}
}

func TestLogic(t *testing.T) { // P4.7, and P4.1: D4
	all := []truth{api.No, api.Maybe, api.Yes}
	opposite := []truth{api.Yes, api.Maybe, api.No}
	for i, a := range all {
		if interval.Not(a) != opposite[i] || interval.Not(interval.Not(a)) != a {
			t.Error("Not", a)
		}
		for j, b := range all {
			and, or := interval.And(a, b), interval.Or(a, b)
			if and != all[min(i, j)] || or != all[max(i, j)] || and != interval.And(b, a) || or != interval.Or(b, a) || and > or {
				t.Error(a, b, and, or)
			}
			if interval.And(a, or) != a || interval.Or(a, and) != a || interval.Not(and) != interval.Or(interval.Not(a), interval.Not(b)) {
				t.Error(a, b)
			}
			for _, c := range all {
				if interval.And(a, interval.And(b, c)) != interval.And(and, c) || interval.Or(a, interval.Or(b, c)) != interval.Or(or, c) {
					t.Error(a, b, c)
				}
			}
		}
	}
	for _, odd := range []truth{-1, 3, math.MaxInt, math.MinInt} {
		if interval.Not(odd) != api.Maybe || interval.And(odd, api.Yes) != api.Maybe || interval.Or(api.No, odd) != api.Maybe || interval.And(odd, api.No) != api.No || interval.Or(api.Yes, odd) != api.Yes {
			t.Error(odd)
		}
	}
}
