package settle_test

import (
	"math/rand"
	"slices"
	"testing"

	"bogie/api"
	"bogie/cost"
	"bogie/sample"
	"bogie/search"
	"bogie/settle"
)

var setup = sample.Setup()

func pays(from, to string, amount int) api.Transfer {
	return api.Transfer{From: from, To: to, Amount: amount}
}

const train = "make 10 a axle; make 0 v coach; fit 10 a v m; run 20 v 40 40 0 0 0 0 | run 20 v 60 60 0 0 0 0;"

func forge(percent, km int) api.Warranty {
	return api.Warranty{Kind: "axle", Maker: "Forge", Days: 100, Km: km, Percent: percent}
}

func bill(owner string, amount int) api.Cost {
	return api.Cost{Part: "a", Owner: owner, Day: 60, Amount: amount}
}

func TestOwed(t *testing.T) { // P44.1: AR1
	l := slices.Clip(sample.Reports(train))
	most := api.MaxAmount
	for i, c := range []struct {
		ws    []api.Warranty
		costs []api.Cost
		want  []api.Transfer
		err   api.Errno
	}{
		{[]api.Warranty{forge(80, 60)}, []api.Cost{bill("Rail", 1001), bill("Line", 10), bill("Rail", 9)}, []api.Transfer{pays("Forge", "Line", 8), pays("Forge", "Rail", 808)}, 0}, {[]api.Warranty{forge(80, 50)}, []api.Cost{bill("Rail", 1001)}, nil, 0}, {[]api.Warranty{forge(80, 50), forge(30, 60)}, []api.Cost{bill("Rail", 1000)}, []api.Transfer{pays("Forge", "Rail", 300)}, 0}, {[]api.Warranty{forge(80, 60)}, []api.Cost{bill("Forge", 1001)}, nil, 0}, {nil, []api.Cost{bill("Rail", 1001)}, nil, 0},
		{[]api.Warranty{forge(80, 60)}, []api.Cost{{}, {Part: "x", Owner: "Rail", Amount: 5}, bill("Rail", -1), bill("Rail", 10)}, []api.Transfer{pays("Forge", "Rail", 8)}, 0}, {[]api.Warranty{forge(100, 60)}, []api.Cost{bill("Rail", most)}, []api.Transfer{pays("Forge", "Rail", most)}, 0}, {[]api.Warranty{forge(100, 60)}, []api.Cost{bill("Rail", most), bill("Rail", 1)}, nil, api.ErrRange}, {[]api.Warranty{forge(100, 60)}, []api.Cost{bill("Rail", most), bill("Line", most)}, []api.Transfer{pays("Forge", "Line", most), pays("Forge", "Rail", most)}, 0}, {[]api.Warranty{forge(100, 60), {}}, nil, nil, api.ErrArg}, {[]api.Warranty{forge(101, 60)}, nil, nil, api.ErrArg},
	} {
		if got, err := settle.Owed(setup, c.ws, l, c.costs); !slices.Equal(got, c.want) || err != c.err {
			t.Error(i, got, err)
		}
	}
	if got, err := settle.Owed(api.Setup{}, nil, l, nil); len(got) != 0 || err != api.ErrArg {
		t.Error(got, err)
	}
	if got, err := settle.Owed(setup, nil, append(l, api.Report{}), nil); len(got) != 0 || err != api.ErrArg {
		t.Error(got, err)
	}
	for _, broken := range []string{"remove 9 a", "scrap 1 a"} {
		if got, err := settle.Owed(setup, []api.Warranty{forge(80, 60)}, append(l, sample.Report(broken)), []api.Cost{bill("Rail", 9)}); len(got) != 0 || err != api.OK {
			t.Error(got, err)
		}
	}
}

func TestDue(t *testing.T) { // P44.1: AR2
	most := api.MaxAmount
	for i, c := range []struct {
		owed, paid, want []api.Transfer
		err              api.Errno
	}{
		{[]api.Transfer{pays("Forge", "Rail", 80)}, nil, []api.Transfer{pays("Forge", "Rail", 80)}, 0}, {[]api.Transfer{pays("Forge", "Rail", 80)}, []api.Transfer{pays("Forge", "Rail", 100)}, []api.Transfer{pays("Rail", "Forge", 20)}, 0}, {[]api.Transfer{pays("Forge", "Rail", 80), pays("Rail", "Forge", 30)}, []api.Transfer{pays("Forge", "Rail", 50)}, nil, 0}, {nil, []api.Transfer{pays("a", "b", 7)}, []api.Transfer{pays("b", "a", 7)}, 0}, {nil, nil, nil, 0},
		{[]api.Transfer{pays("b", "c", 1), pays("a", "z", 2), pays("a", "b", 3), pays("b", "c", 4), pays("c", "a", 0)}, nil, []api.Transfer{pays("a", "b", 3), pays("a", "z", 2), pays("b", "c", 5)}, 0}, {[]api.Transfer{pays("a", "b", most), pays("a", "b", 1)}, nil, nil, api.ErrRange}, {[]api.Transfer{pays("a", "b", most), pays("a", "b", 1)}, []api.Transfer{pays("a", "b", 1)}, []api.Transfer{pays("a", "b", most)}, 0}, {[]api.Transfer{pays("a", "b", most)}, []api.Transfer{pays("b", "a", 1)}, nil, api.ErrRange},
		{[]api.Transfer{pays("a", "a", 1)}, nil, nil, api.ErrArg}, {nil, []api.Transfer{pays("", "a", 1)}, nil, api.ErrArg}, {nil, []api.Transfer{pays("b", "a-", 1)}, nil, api.ErrArg}, {[]api.Transfer{pays("b", "a", -1)}, nil, nil, api.ErrArg}, {[]api.Transfer{pays("b", "a", most+1)}, nil, nil, api.ErrArg}, {[]api.Transfer{pays("a", "b", most), pays("a", "b", 1)}, []api.Transfer{pays("b", "b", 1)}, nil, api.ErrArg},
	} {
		if got, err := settle.Due(c.owed, c.paid); !slices.Equal(got, c.want) || err != c.err {
			t.Error(i, got, err)
		}
	}
}

func random(r *rand.Rand) []api.Transfer {
	var l []api.Transfer
	names := []string{"Forge", "Line", "Mill", "Rail"}
	for range r.Intn(7) {
		i, j := r.Intn(4), r.Intn(3)
		l = append(l, pays(names[i], names[(i+j+1)%4], r.Intn(100)))
	}
	return l
}

func due(t *testing.T, owed, paid []api.Transfer) []api.Transfer {
	t.Helper()
	l, err := settle.Due(owed, paid)
	if err != api.OK {
		t.Fatal(owed, paid, err)
	}
	return l
}

func balance(l []api.Transfer, party string) int {
	n := 0
	for _, t := range l {
		if t.To == party {
			n += t.Amount
		}
		if t.From == party {
			n -= t.Amount
		}
	}
	return n
}

func TestPaying(t *testing.T) { // P44.2, P44.3 and P44.4
	r := rand.New(rand.NewSource(1))
	for range 500 {
		owed, paid := random(r), random(r)
		l := due(t, owed, paid)
		all := append(slices.Clone(paid), l...)
		if rest := due(t, owed, all); len(rest) != 0 {
			t.Fatal(owed, paid, l, rest)
		}
		for _, party := range []string{"Forge", "Line", "Mill", "Rail"} {
			if balance(owed, party) != balance(all, party) {
				t.Fatal(owed, paid, l, party)
			}
		}
		other := slices.Clone(owed)
		r.Shuffle(len(other), func(i, j int) { other[i], other[j] = other[j], other[i] })
		if len(other) > 0 {
			part := r.Intn(other[0].Amount + 1)
			other[0].Amount -= part
			other = append(other, pays(other[0].From, other[0].To, part))
		}
		if got := due(t, other, paid); !slices.Equal(got, l) {
			t.Fatal(owed, other, paid, l, got)
		}
	}
}

// each calls a function with random reports, warranties and costs, and what is owed.
func each(t *testing.T, seed int64, check func(r *rand.Rand, l []api.Report, ws []api.Warranty, costs []api.Cost, owed []api.Transfer)) {
	t.Helper()
	r := rand.New(rand.NewSource(seed))
	some := 0
	for range 100 {
		ws, costs := sample.RandomCosts(r.Intn)
		l := append(sample.RandomReports(r.Intn, 14, 4), sample.Reports(train)...)
		costs = append(costs, bill("Rail", r.Intn(1000)))
		ws = append(ws, forge(r.Intn(101), 40+r.Intn(30)))
		owed, err := settle.Owed(setup, ws, l, costs)
		if err != api.OK {
			t.Fatal(l, ws, costs, err)
		}
		if len(owed) > 0 {
			some++
		}
		check(r, l, ws, costs, owed)
	}
	if some < 20 {
		t.Error("too few cases:", some)
	}
}

func TestCosts(t *testing.T) { // P44.5 and P44.6
	each(t, 1, func(r *rand.Rand, l []api.Report, ws []api.Warranty, costs []api.Cost, owed []api.Transfer) {
		n := r.Intn(len(costs) + 1)
		a, _ := settle.Owed(setup, ws, l, costs[:n])
		b, _ := settle.Owed(setup, ws, l, costs[n:])
		if joined := due(t, append(a, b...), nil); !slices.Equal(joined, due(t, owed, nil)) {
			t.Fatal(l, ws, costs, owed, joined)
		}
		owned, isMaker := map[string]int{}, map[string]bool{}
		for _, c := range costs {
			owned[c.Owner] += c.Amount
		}
		for _, w := range ws {
			isMaker[w.Maker] = true
		}
		got := map[string]int{}
		for i, o := range owed {
			got[o.To] += o.Amount
			if !isMaker[o.From] || o.Amount < 1 || i > 0 && owed[i-1].From+" "+owed[i-1].To >= o.From+" "+o.To {
				t.Fatal(owed)
			}
		}
		for owner, amount := range got {
			if amount > owned[owner] {
				t.Fatal(costs, owed)
			}
		}
		for _, c := range costs { // each maker owes what it surely bears
			shares, _, _ := cost.Sure(setup, ws, l, c)
			for _, s := range shares {
				if s.Party != c.Owner && !slices.ContainsFunc(owed, func(o api.Transfer) bool { return o.From == s.Party && o.To == c.Owner && o.Amount >= s.Amount }) {
					t.Fatal(c, s, owed)
				}
			}
		}
	})
}

func TestEvidence(t *testing.T) { // P44.7
	each(t, 2, func(r *rand.Rand, l []api.Report, ws []api.Warranty, costs []api.Cost, owed []api.Transfer) {
		i := r.Intn(len(l))
		decided := slices.Clone(l)
		decided[i] = api.Report{Options: []api.Event{l[i].Options[r.Intn(len(l[i].Options))]}}
		if _, err := search.First(setup.Catalog, decided); err != api.OK {
			return
		}
		after, _ := settle.Owed(setup, ws, decided, costs)
		for _, o := range owed {
			if !slices.ContainsFunc(after, func(p api.Transfer) bool { return p.From == o.From && p.To == o.To && p.Amount >= o.Amount }) {
				t.Fatal(l, i, ws, costs, owed, after)
			}
		}
	})
}
