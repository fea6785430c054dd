package migrate_test

import (
	"math"
	"math/big"
	"math/rand"
	"slices"
	"testing"

	"bogie/api"
	"bogie/migrate"
	"bogie/sample"
)

const most = api.MaxAmount

var in = sample.In

func TestScale(t *testing.T) { // P25.1: Y1
	for _, c := range []struct {
		used        api.Interval
		limit, next int
		want        api.Interval
		err         api.Errno
	}{
		{in(100, 101), 300, 10, in(3, 4), 0}, {in(0, 0), 7, 9, in(0, 0), 0}, {in(most, most), most, most, in(most, most), 0}, {in(most-1, most-1), most, most - 1, in(most-2, most-1), 0}, {in(0, most), most, 1, in(0, 1), 0}, {in(1, 1), most, 1, in(0, 1), 0},
		{in(0, 1), 1, most, in(0, most), 0}, {in(0, 2), 1, most, in(0, 0), api.ErrLimit}, {in(most, most), 1, most, in(0, 0), api.ErrLimit}, {in(0, most), 1, 2, in(0, 0), api.ErrLimit}, {in(3, 3), 2, 1, in(1, 2), 0}, {in(2, 2), 2, 1, in(1, 1), 0}, {in(0, 500000000001), 1, 2, in(0, 0), api.ErrLimit}, {in(0, 500000000000), 1, 2, in(0, most), 0},
		{in(-1, 1), 1, 1, in(0, 0), api.ErrArg}, {in(2, 1), 1, 1, in(0, 0), api.ErrArg}, {in(0, most+1), most, 1, in(0, 0), api.ErrArg}, {in(0, 1), 0, 1, in(0, 0), api.ErrArg}, {in(0, 1), 1, 0, in(0, 0), api.ErrArg}, {in(0, 1), most + 1, 1, in(0, 0), api.ErrArg}, {in(0, 1), 1, most + 1, in(0, 0), api.ErrArg}, {in(0, 1), math.MinInt, math.MaxInt, in(0, 0), api.ErrArg},
	} {
		if got, err := migrate.Scale(c.used, c.limit, c.next); got != c.want || err != c.err {
			t.Error(c, got, err)
		}
	}
}

// random returns a used life, and two limits, none of which are too small.
func random(r *rand.Rand) (api.Interval, int, int) {
	n := []int{10, 1000000, most}[r.Intn(3)]
	a, b := r.Intn(n+1), r.Intn(n+1)
	limit, next := 1+r.Intn(n), 1+r.Intn(n)
	return in(min(a, b), max(a, b)), limit, next
}

// product compares a * b with c * d.
func product(a, b, c, d int) int {
	x, y := big.NewInt(int64(a)), big.NewInt(int64(c))
	return x.Mul(x, big.NewInt(int64(b))).Cmp(y.Mul(y, big.NewInt(int64(d))))
}

// exact is Scale for valid arguments, with numbers of any size.
func exact(used api.Interval, limit, next int) (api.Interval, api.Errno) {
	quotient := func(n, more int) *big.Int {
		product := big.NewInt(int64(n))
		product.Mul(product, big.NewInt(int64(next))).Add(product, big.NewInt(int64(more)))
		return product.Div(product, big.NewInt(int64(limit)))
	}
	low, high := quotient(used.Low, 0), quotient(used.High, limit-1)
	if high.Cmp(big.NewInt(most)) > 0 {
		return api.Interval{}, api.ErrLimit
	}
	return in(int(low.Int64()), int(high.Int64())), api.OK
}

// checkExact compares Scale, and Chain of two limits and of three, with exact numbers.
func checkExact(t *testing.T, used api.Interval, limit, next int) {
	t.Helper()
	want, wantErr := exact(used, limit, next)
	if got, err := migrate.Scale(used, limit, next); got != want || err != wantErr {
		t.Fatal(used, limit, next, got, err)
	}
	for _, limits := range [][]int{{limit, next}, {limit, limit, next}, {limit, next, next}} {
		if got, err := migrate.Chain(used, limits); got != want || err != wantErr {
			t.Fatal(used, limits, got, err)
		}
	}
}

func TestQuotientsAtTwoToThe64(t *testing.T) { // P25.1: Y1 and Y2, and P25.2
	// (m * 2^32 - j) * (m * 2^32 + j) / m^2 is 2^64 for j = 0, 2^64 - 1 for j = m, between both for less, and below for more.
	for m := 1; m <= 232; m++ {
		for j := range m + 2 {
			a, b := m<<32-j, m<<32+j
			checkExact(t, in(0, a), m*m, b)
			checkExact(t, in(m-1, b), m*m, a)
		}
	}
	for _, used := range []api.Interval{in(0, 3302146633), in(5, 3302146633), in(3302146633, 3302146633)} {
		for limit := 170; limit < 190; limit++ {
			checkExact(t, used, limit, 999945658438)
			checkExact(t, in(used.Low, 999945658438), limit, 3302146633)
		}
	}
	// The life becomes 2^33 - 1 for the limit 4 by a step before: it is 2^64 - 1/4 for 2^33 + 1.
	for _, limits := range [][]int{{8, 4, 1<<33 + 1}, {8, 4, 1<<33 + 1, 1}} {
		if got, err := migrate.Chain(in(0, 1<<34-2), limits); got != in(0, 0) || err != api.ErrLimit {
			t.Error(limits, got, err)
		}
	}
}

func TestExact(t *testing.T) { // P25.1: Y1 and Y2
	r := rand.New(rand.NewSource(6))
	amount := func() int { return 1 + r.Intn([]int{10, 100000, most}[r.Intn(3)]) }
	failed := 0
	for range 20000 {
		high, limit, next := amount(), amount(), amount()
		if r.Intn(2) == 0 { // a High that leads to about the greatest amount, or to about a power of 2
			q := []float64{most, 1 << 32, 1 << 63, 1 << 64, 1 << 65}[r.Intn(5)]
			high = int(min(q*float64(limit)/float64(next), most-2)) + r.Intn(3)
		}
		used := in(r.Intn(high+1), high)
		if _, err := exact(used, limit, next); err != api.OK {
			failed++
		}
		checkExact(t, used, limit, next)
	}
	if failed < 4000 || failed > 16000 {
		t.Error("too few cases of a kind:", failed)
	}
}

func TestNothingGivenBack(t *testing.T) { // P25.2
	r := rand.New(rand.NewSource(1))
	done := 0
	for range 5000 {
		used, limit, next := random(r)
		got, err := migrate.Scale(used, limit, next)
		if err == api.ErrLimit {
			if product(used.High, next, most, limit) <= 0 {
				t.Fatal(used, limit, next)
			}
			continue
		}
		done++
		// got / next is compared with used / limit.
		if product(got.High, limit, used.High, next) < 0 || product(got.High-1, limit, used.High, next) >= 0 || product(got.Low, limit, used.Low, next) > 0 || product(got.Low+1, limit, used.Low, next) <= 0 {
			t.Fatal(used, limit, next, got)
		}
	}
	if done < 1000 {
		t.Error("too few cases:", done)
	}
}

func TestUsedUp(t *testing.T) { // P25.3 and P25.4
	r := rand.New(rand.NewSource(2))
	for range 3000 {
		used, limit, next := random(r)
		if r.Intn(3) == 0 {
			limit = max(used.Low, 1)
		}
		got, err := migrate.Scale(used, limit, next)
		if err != api.OK {
			continue
		}
		if used.High >= limit && got.High < next || (used.Low >= limit) != (got.Low >= next) {
			t.Fatal(used, limit, next, got)
		}
		if whole, err := migrate.Scale(in(limit, limit), limit, next); whole != in(next, next) || err != api.OK {
			t.Fatal(limit, next, whole)
		}
		if same, err := migrate.Scale(used, limit, limit); same != used || err != api.OK {
			t.Fatal(used, limit, same)
		}
		if none, err := migrate.Scale(in(0, 0), limit, next); none != in(0, 0) || err != api.OK {
			t.Fatal(limit, next, none)
		}
	}
}

func TestOrder(t *testing.T) { // P25.5
	r := rand.New(rand.NewSource(3))
	for range 3000 {
		used, limit, next := random(r)
		all, err := migrate.Scale(used, limit, next)
		if err != api.OK {
			continue
		}
		low := used.Low + r.Intn(used.High-used.Low+1)
		part, _ := migrate.Scale(in(low, low+r.Intn(used.High-low+1)), limit, next)
		if part.Low < all.Low || part.High > all.High {
			t.Fatal(used, limit, next, all, part)
		}
		if more, err := migrate.Scale(used, limit, next+r.Intn(most-next+1)); err == api.OK && (more.Low < all.Low || more.High < all.High) {
			t.Fatal(used, limit, next, all, more)
		}
	}
}

func TestChain(t *testing.T) { // P25.6, and P25.1: Y2
	for _, c := range []struct {
		used   api.Interval
		limits []int
		want   api.Interval
		err    api.Errno
	}{
		{in(50, 50), []int{100, 3, 100}, in(33, 67), 0}, {in(5, 7), []int{3}, in(5, 7), 0}, {in(5, 7), nil, in(0, 0), api.ErrArg}, {in(0, 0), slices.Repeat([]int{5}, 60), in(0, 0), 0}, {in(1, 1), slices.Repeat([]int{5}, 61), in(0, 0), api.ErrArg}, {in(1, 1), []int{0}, in(0, 0), api.ErrArg},
		{in(0, most), []int{1, 2, 0}, in(0, 0), api.ErrArg}, {in(0, most), []int{1, 2, 1}, in(0, 0), api.ErrLimit}, {in(-1, 0), []int{1}, in(0, 0), api.ErrArg}, {in(0, 1), []int{most + 1}, in(0, 0), api.ErrArg},
	} {
		if got, err := migrate.Chain(c.used, c.limits); got != c.want || err != c.err {
			t.Error(c, got, err)
		}
	}
	r := rand.New(rand.NewSource(4))
	for range 2000 {
		used := in(0, 0)
		used.Low = r.Intn(1000)
		used.High = used.Low + r.Intn(1000)
		var limits []int
		for range 2 + r.Intn(5) {
			limits = append(limits, 1+r.Intn(1000))
		}
		all, err := migrate.Chain(used, limits)
		at := r.Intn(len(limits))
		first, err1 := migrate.Chain(used, limits[:at+1])
		then, err2 := migrate.Chain(first, limits[at:])
		if err != api.OK || err1 != api.OK || err2 != api.OK || then != all {
			t.Fatal(used, limits, at, all, then)
		}
		if once, err := migrate.Scale(used, limits[0], limits[len(limits)-1]); err != api.OK || once.Low < all.Low || once.High > all.High {
			t.Fatal(used, limits, all, once)
		}
	}
}

func TestLeft(t *testing.T) { // P25.7, and P25.1: Y3
	for _, c := range []struct {
		used  api.Interval
		limit int
		want  api.Interval
		err   api.Errno
	}{
		{in(90, 130), 100, in(0, 10), 0}, {in(0, 0), 5, in(5, 5), 0}, {in(6, 7), 5, in(0, 0), 0}, {in(1, 4), 5, in(1, 4), 0}, {in(5, 5), 5, in(0, 0), 0}, {in(-1, 4), 5, in(0, 0), api.ErrArg}, {in(2, 1), 5, in(0, 0), api.ErrArg}, {in(1, 1), 0, in(0, 0), api.ErrArg}, {in(1, 1), most + 1, in(0, 0), api.ErrArg}, {in(0, most), most, in(0, most), 0},
	} {
		if got, err := migrate.Left(c.used, c.limit); got != c.want || err != c.err {
			t.Error(c, got, err)
		}
	}
	r := rand.New(rand.NewSource(5))
	for range 1000 {
		used, limit, _ := random(r)
		got, _ := migrate.Left(used, limit)
		if used.High <= limit && (got.Low+used.High != limit || got.High+used.Low != limit) || (got.High == 0) != (used.Low >= limit) || (got.Low == 0) != (used.High >= limit) {
			t.Fatal(used, limit, got)
		}
	}
}
