package money_test

import (
	"math/big"
	"math/rand"
	"slices"
	"strings"
	"testing"

	"bogie/api"
	"bogie/money"
)

func TestSplitValues(t *testing.T) { // P3.1: C1
	for _, c := range []struct {
		amount  int
		weights []int
		want    []int
	}{
		{100, []int{1, 1, 1}, []int{34, 33, 33}},
		{5, []int{3, 0, 1}, []int{4, 0, 1}},
		{0, []int{1, 2}, []int{0, 0}},
		{7, []int{9999999}, []int{7}},
		{2, []int{1, 1, 1}, []int{1, 1, 0}},
		{10, []int{1, 3, 3, 3}, []int{1, 3, 3, 3}},
		{1, []int{1, 2}, []int{0, 1}},
		{api.MaxAmount, []int{9999999, 1}, []int{999999900000, 100000}},
		{3, slices.Repeat([]int{5}, 16), append([]int{1, 1, 1}, make([]int, 13)...)},
	} {
		given := slices.Clone(c.weights)
		got, err := money.Split(c.amount, c.weights)
		if err != api.OK || !slices.Equal(got, c.want) || !slices.Equal(given, c.weights) {
			t.Error(c, got, err)
		}
	}
	for _, c := range []struct {
		amount  int
		weights []int
	}{{-1, []int{1}}, {api.MaxAmount + 1, []int{1}}, {1, nil}, {1, []int{0}}, {1, []int{0, 0}}, {1, []int{-1, 2}}, {1, []int{api.MaxNumber + 1}}, {1, make([]int, 17)}, {1, slices.Repeat([]int{1}, 17)}} {
		if got, err := money.Split(c.amount, c.weights); len(got) != 0 || err != api.ErrArg {
			t.Error(c, got, err)
		}
	}
}

// random returns an amount and weights.
func random(r *rand.Rand) (int, []int) {
	weights := make([]int, 1+r.Intn(16))
	most := []int{2, 10, 1000, api.MaxNumber + 1}[r.Intn(4)]
	for i := range weights {
		weights[i] = r.Intn(most)
	}
	weights[r.Intn(len(weights))] = 1 + r.Intn(most-1)
	return r.Intn([]int{10, 1000, api.MaxAmount + 1}[r.Intn(3)]), weights
}

func TestNothingLost(t *testing.T) { // P3.2
	r := rand.New(rand.NewSource(1))
	for range 2000 {
		amount, weights := random(r)
		l, err := money.Split(amount, weights)
		sum := 0
		for i, s := range l {
			sum += s
			if s < 0 || weights[i] == 0 && s != 0 {
				t.Fatal(amount, weights, l)
			}
		}
		if err != api.OK || len(l) != len(weights) || sum != amount {
			t.Fatal(amount, weights, l, err)
		}
	}
}

func TestFair(t *testing.T) { // P3.3
	r := rand.New(rand.NewSource(2))
	for range 1000 {
		amount, weights := random(r)
		l, _ := money.Split(amount, weights)
		sum := 0
		for _, w := range weights {
			sum += w
		}
		for i, s := range l {
			exact := new(big.Int).Mul(big.NewInt(int64(amount)), big.NewInt(int64(weights[i])))
			off := new(big.Int).Mul(big.NewInt(int64(s)), big.NewInt(int64(sum)))
			if off.Sub(off, exact).CmpAbs(big.NewInt(int64(sum))) >= 0 {
				t.Fatal("off by a cent", amount, weights, l)
			}
			for j := range i {
				if weights[j] == weights[i] && (l[j] < s || l[j] > s+1) {
					t.Fatal("equal weights", amount, weights, l)
				}
				if weights[j] > weights[i] && l[j] < s || weights[j] < weights[i] && l[j] > s {
					t.Fatal("greater weight", amount, weights, l)
				}
			}
		}
	}
}

func TestInCommon(t *testing.T) { // P3.4
	r := rand.New(rand.NewSource(3))
	for range 500 {
		amount := r.Intn(api.MaxAmount + 1)
		a, b := make([]int, 1+r.Intn(16)), []int{}
		factor := 1 + r.Intn(1000)
		a[0] = 1
		for i := range a {
			a[i] += r.Intn(9999)
			b = append(b, a[i]*factor)
		}
		x, err := money.Split(amount, a)
		y, err2 := money.Split(amount, b)
		if err != api.OK || err2 != api.OK || !slices.Equal(x, y) {
			t.Fatal(amount, a, factor, x, y)
		}
	}
}

func TestPercentValues(t *testing.T) { // P3.1: C2
	for _, c := range [][3]int{{50, 1, 0}, {150, 1, 2}, {51, 1, 1}, {250, 1, 2}, {350, 1, 4}, {49, 1, 0}, {1001, 80, 801}, {7, 50, 4}, {5, 50, 2}, {0, 100, 0}, {70, 0, 0}, {70, 100, 70}, {api.MaxAmount, 100, api.MaxAmount}, {api.MaxAmount, 99, 990000000000}} {
		if got, err := money.Percent(c[0], c[1]); got != c[2] || err != api.OK {
			t.Error(c, got, err)
		}
	}
	for _, c := range [][2]int{{-1, 5}, {api.MaxAmount + 1, 5}, {1, -1}, {1, 101}, {-1, 101}} {
		if got, err := money.Percent(c[0], c[1]); got != 0 || err != api.ErrArg {
			t.Error(c, got, err)
		}
	}
}

func TestPercent(t *testing.T) { // P3.5
	r := rand.New(rand.NewSource(4))
	for range 3000 {
		amount, p := r.Intn([]int{1000, api.MaxAmount}[r.Intn(2)]), r.Intn(101)
		n, _ := money.Percent(amount, p)
		rest, _ := money.Percent(amount, 100-p)
		none, _ := money.Percent(amount, 0)
		all, _ := money.Percent(amount, 100)
		more, _ := money.Percent(amount+1, p)
		if d := 100*n - amount*p; d > 50 || d < -50 {
			t.Fatal("more than half a cent", amount, p, n)
		}
		if d := amount - n - rest; none != 0 || all != amount || d > 1 || d < -1 || more < n {
			t.Fatal(amount, p, n, rest, none, all, more)
		}
		if p < 100 {
			if greater, _ := money.Percent(amount, p+1); greater < n {
				t.Fatal(amount, p, n, greater)
			}
		}
	}
}

func TestTexts(t *testing.T) { // P3.6, and P3.1: C3
	for n, want := range map[int]string{0: "0.00", 5: "0.05", 123456: "1234.56", 100: "1.00", 99: "0.99", api.MaxAmount: "10000000000.00"} {
		if s, err := money.Text(n); s != want || err != api.OK {
			t.Error(n, s, err)
		}
	}
	for _, n := range []int{-1, api.MaxAmount + 1, -1 << 63} {
		if s, err := money.Text(n); s != "" || err != api.ErrArg {
			t.Error(n, s, err)
		}
	}
	r := rand.New(rand.NewSource(5))
	for range 1000 {
		n := r.Intn(api.MaxAmount + 1)
		s, _ := money.Text(n)
		if got, err := money.Parse(s); got != n || err != api.OK {
			t.Error(n, s, got, err)
		}
	}
	for _, s := range []string{"", ".", "01.00", "1.5", "1.555", "1", "1.", ".05", "00.05", "-1.00", "+1.00", " 1.00", "1.00 ", "1,00", "1.0a", "1.00\n", "10000000000.01", "99999999999.99", "1e5.00", "\xff1.00", "١.00", "0.0\u0660", strings.Repeat("9", 100000)} {
		if n, err := money.Parse(s); n != 0 || err != api.ErrSyntax {
			t.Errorf("%q: %d, %d", s, n, err)
		}
	}
}

func TestEqualArguments(t *testing.T) { // P1 and P3
	a, _ := money.Split(1000, []int{3, 3, 3})
	b, _ := money.Split(1000, []int{3, 3, 3})
	a[0] = 0
	if !slices.Equal(b, []int{334, 333, 333}) {
		t.Error(b)
	}
}
