package audit_test

import (
	"math/rand"
	"slices"
	"testing"

	"bogie/api"
	"bogie/audit"
	"bogie/sample"
	"bogie/settle"
)

var setup = sample.Setup()

func pays(from, to string, amount int) api.Transfer {
	return api.Transfer{From: from, To: to, Amount: amount}
}

const train = "make 10 a axle; make 0 v coach; fit 10 a v m; run 20 v 40 40 0 0 0 0 | run 20 v 60 60 0 0 0 0;"

func forge(percent, km int) api.Warranty {
	return api.Warranty{Kind: "axle", Maker: "Forge", Days: 100, Km: km, Percent: percent}
}

func bill(owner string, amount int) api.Cost {
	return api.Cost{Part: "a", Owner: owner, Day: 60, Amount: amount}
}

func TestAccept(t *testing.T) { // P45.1: AS1
	l := slices.Clip(sample.Reports(train))
	ws := []api.Warranty{forge(80, 60)}
	most := api.MaxAmount
	for i, c := range []struct {
		ws        []api.Warranty
		l         []api.Report
		costs     []api.Cost
		paid, due []api.Transfer
		want      bool
	}{
		{ws, l, []api.Cost{bill("Rail", 1001)}, nil, []api.Transfer{pays("Forge", "Rail", 801)}, true}, {ws, l, []api.Cost{bill("Rail", 1001)}, nil, nil, false}, {ws, l, []api.Cost{bill("Rail", 1001)}, nil, []api.Transfer{pays("Forge", "Rail", 800)}, false}, {ws, l, []api.Cost{bill("Rail", 1001)}, nil, []api.Transfer{pays("Rail", "Forge", 801)}, false}, {ws, l, []api.Cost{bill("Rail", 1001)}, nil, []api.Transfer{pays("Forge", "Rail", 400), pays("Forge", "Rail", 401)}, false},
		{ws, l, []api.Cost{bill("Rail", 1001)}, []api.Transfer{pays("Forge", "Rail", 901)}, []api.Transfer{pays("Rail", "Forge", 100)}, true}, {ws, l, []api.Cost{bill("Rail", 1001)}, []api.Transfer{pays("Forge", "Rail", 901)}, nil, false}, {ws, l, []api.Cost{bill("Rail", 1001)}, []api.Transfer{pays("Forge", "Rail", 401), pays("Forge", "Rail", 400)}, nil, true}, {ws, l, []api.Cost{bill("Rail", 1001)}, []api.Transfer{pays("Forge", "Rail", 901), pays("Rail", "Forge", 100)}, nil, true}, {ws, l, []api.Cost{bill("Rail", 1001)}, nil, []api.Transfer{pays("Forge", "Rail", 901), pays("Rail", "Forge", 100)}, false}, {ws, l, []api.Cost{bill("Rail", 1001)}, nil, []api.Transfer{pays("Forge", "Rail", 801), pays("Forge", "Line", 0)}, false}, {ws, l, []api.Cost{bill("Rail", 1001)}, nil, []api.Transfer{pays("Forge", "Rail", 801), pays("Forge", "Line", 1)}, false}, {ws, l, nil, []api.Transfer{pays("Forge", "Line", 0)}, nil, true},
		{ws, l, []api.Cost{bill("Forge", 1001)}, nil, nil, true}, {[]api.Warranty{forge(80, 50)}, l, []api.Cost{bill("Rail", 1001)}, nil, nil, true}, {[]api.Warranty{forge(80, 50), forge(30, 60)}, l, []api.Cost{bill("Rail", 1000)}, nil, []api.Transfer{pays("Forge", "Rail", 300)}, true}, {ws, l, []api.Cost{{}, bill("x y", 5), bill("Rail", -1), {Part: "z", Owner: "Rail", Amount: 7}}, nil, nil, true}, {ws, append(l, sample.Report("remove 9 a")), []api.Cost{bill("Rail", 1001)}, nil, nil, true},
		{[]api.Warranty{forge(100, 60)}, l, []api.Cost{bill("Rail", most)}, nil, []api.Transfer{pays("Forge", "Rail", most)}, true}, {[]api.Warranty{forge(100, 60)}, l, []api.Cost{bill("Rail", most), bill("Rail", 1)}, []api.Transfer{pays("Forge", "Rail", 1)}, []api.Transfer{pays("Forge", "Rail", most)}, false},
		{[]api.Warranty{forge(101, 60)}, l, nil, nil, nil, false}, {[]api.Warranty{{}}, l, nil, nil, nil, false}, {ws, append(l, api.Report{}), nil, nil, nil, false}, {ws, l, nil, []api.Transfer{pays("a", "a", 1)}, nil, false}, {ws, l, nil, []api.Transfer{pays("a", "b", -1)}, nil, false}, {ws, l, nil, nil, []api.Transfer{pays("", "b", 1)}, false}, {ws, l, nil, []api.Transfer{pays("a", "b", most+1)}, []api.Transfer{pays("b", "a", most+1)}, false}, {nil, nil, nil, nil, nil, true},
		{ws, sample.Reports("? make 10 a axle"), []api.Cost{bill("Rail", 1001)}, nil, nil, true}, {ws, l, []api.Cost{bill("Rail", 1)}, nil, []api.Transfer{pays("Forge", "Rail", 1)}, true}, {ws, l, []api.Cost{bill("Rail", 1)}, nil, nil, false},
		{[]api.Warranty{forge(80, 50), {Kind: "axle", Maker: "Mill", Days: 100, Km: 60, Percent: 50}}, l, []api.Cost{bill("Rail", 1000)}, nil, nil, true}, {[]api.Warranty{{Kind: "axle", Maker: "Forge", Days: 40000, Km: most, Percent: 100}, {Kind: "motor", Maker: "Mill"}}, l, []api.Cost{{Part: "a", Owner: "Rail", Day: 0, Amount: most}, {Part: "a", Owner: "Line", Day: 40000, Amount: most}}, nil, []api.Transfer{pays("Forge", "Line", most)}, true}, {[]api.Warranty{{Kind: "axle", Maker: "Forge", Days: 49, Km: 99, Percent: 50}, {Kind: "axle", Maker: "Mill", Days: 50, Km: 60, Percent: 10}}, l, []api.Cost{bill("Rail", 100)}, nil, []api.Transfer{pays("Mill", "Rail", 10)}, true},
	} {
		if audit.Accept(setup, c.ws, c.l, c.costs, c.paid, c.due) != c.want {
			t.Error(i)
		}
	}
	if audit.Accept(api.Setup{}, nil, nil, nil, nil, nil) {
		t.Error("a setup that is not valid")
	}
}

func TestInvalid(t *testing.T) { // P45.1: AS1
	l := sample.Reports(train)
	for i, f := range []func(w *api.Warranty){func(w *api.Warranty) { w.Kind = "" }, func(w *api.Warranty) { w.Maker = "a b" }, func(w *api.Warranty) { w.Days = -1 }, func(w *api.Warranty) { w.Days = 40001 }, func(w *api.Warranty) { w.Km = -1 }, func(w *api.Warranty) { w.Km = api.MaxAmount + 1 }, func(w *api.Warranty) { w.Percent = -1 }, func(w *api.Warranty) { w.Percent = 101 }} {
		w := forge(80, 60)
		f(&w)
		if audit.Accept(setup, []api.Warranty{w}, l, nil, nil, nil) {
			t.Error(i)
		}
	}
	// A cost that is not valid costs nobody anything.
	for i, f := range []func(c *api.Cost){func(c *api.Cost) { c.Part = "" }, func(c *api.Cost) { c.Owner = "" }, func(c *api.Cost) { c.Day = -1 }, func(c *api.Cost) { c.Day = 40001 }, func(c *api.Cost) { c.Amount = -1 }, func(c *api.Cost) { c.Amount = api.MaxAmount + 1 }} {
		c := bill("Rail", 1000)
		f(&c)
		if !audit.Accept(setup, []api.Warranty{forge(80, 60)}, l, []api.Cost{c}, nil, nil) {
			t.Error(i)
		}
	}
}

func TestLarge(t *testing.T) { // P45.1: AS1
	l := sample.Reports("make 10 a axle")
	for i := range 31 {
		e := sample.Event("overhaul 20 a")
		e.Day += i
		l = append(l, api.Report{Options: []api.Event{e}, Doubtful: true})
	}
	costs := []api.Cost{bill("Rail", 100)}
	for n, sure := range map[int]bool{1: true, 12: true, 13: false, 32: false} { // one of them is no doubt
		due := []api.Transfer{pays("Forge", "Rail", 80)}
		if audit.Accept(setup, []api.Warranty{forge(80, 60)}, l[:n], costs, nil, due) != sure || audit.Accept(setup, []api.Warranty{forge(80, 60)}, l[:n], costs, nil, nil) == sure {
			t.Error(n)
		}
	}
}

func TestNet(t *testing.T) { // P45.1: AS2, and P45.7
	most := api.MaxAmount
	share := func(party string, amount int) api.Share { return api.Share{Party: party, Amount: amount} }
	for i, c := range []struct {
		l    []api.Transfer
		want []api.Share
		err  api.Errno
	}{
		{[]api.Transfer{pays("Forge", "Rail", 80), pays("Rail", "Mill", 30)}, []api.Share{share("Forge", -80), share("Mill", 30), share("Rail", 50)}, 0}, {[]api.Transfer{pays("Forge", "Rail", 80), pays("Rail", "Forge", 80)}, nil, 0}, {nil, nil, 0}, {[]api.Transfer{pays("a", "b", most)}, []api.Share{share("a", -most), share("b", most)}, 0}, {[]api.Transfer{pays("a", "b", most), pays("a", "c", 1)}, nil, api.ErrRange}, {[]api.Transfer{pays("a", "c", most), pays("b", "c", 1)}, nil, api.ErrRange}, {[]api.Transfer{pays("a", "c", most), pays("b", "c", 1), pays("c", "d", 1)}, []api.Share{share("a", -most), share("b", -1), share("c", most), share("d", 1)}, 0},
		{[]api.Transfer{pays("a", "a", 1)}, nil, api.ErrArg}, {[]api.Transfer{pays("a", "b", most+1)}, nil, api.ErrArg}, {[]api.Transfer{pays("a", "b", most), pays("a", "c", most), pays("a", "", 1)}, nil, api.ErrArg}, {[]api.Transfer{pays("a", "b", 0)}, nil, 0},
	} {
		if got, err := audit.Net(c.l); !slices.Equal(got, c.want) || err != c.err {
			t.Error(i, got, err)
		}
	}
}

func random(r *rand.Rand) []api.Transfer {
	var l []api.Transfer
	names := []string{"Forge", "Line", "Mill", "Rail"}
	for range r.Intn(5) {
		i, j := r.Intn(4), r.Intn(3)
		l = append(l, pays(names[i], names[(i+j+1)%4], r.Intn(100)))
	}
	return l
}

// each calls a function with random reports, warranties, costs and payments, and what is due.
func each(t *testing.T, seed int64, check func(r *rand.Rand, accept func(paid, due []api.Transfer) bool, owed, paid, due []api.Transfer)) {
	t.Helper()
	r := rand.New(rand.NewSource(seed))
	for range 80 {
		ws, costs := sample.RandomCosts(r.Intn)
		l := append(sample.RandomReports(r.Intn, 14, 4), sample.Reports(train)...)
		costs = append(costs, bill("Rail", r.Intn(1000)))
		ws = append(ws, forge(r.Intn(101), 40+r.Intn(30)))
		owed, _ := settle.Owed(setup, ws, l, costs)
		paid := random(r)
		due, err := settle.Due(owed, paid)
		if err != api.OK {
			t.Fatal(err)
		}
		check(r, func(paid, due []api.Transfer) bool { return audit.Accept(setup, ws, l, costs, paid, due) }, owed, paid, due)
	}
}

func TestWhatIsComputed(t *testing.T) { // P45.2, P45.4 and P45.5
	each(t, 1, func(r *rand.Rand, accept func(paid, due []api.Transfer) bool, owed, paid, due []api.Transfer) {
		other := slices.Clone(due)
		r.Shuffle(len(other), func(i, j int) { other[i], other[j] = other[j], other[i] })
		if !accept(paid, other) {
			t.Fatal(owed, paid, due)
		}
		all := append(slices.Clone(paid), due...)
		if !accept(all, nil) || accept(all, []api.Transfer{pays("x", "y", 1)}) {
			t.Fatal("paid:", owed, paid, due)
		}
		if len(due) == 0 {
			return
		}
		i := r.Intn(len(due))
		wrong := [][]api.Transfer{slices.Delete(slices.Clone(due), i, i+1), append(slices.Clone(due), due[i])}
		for _, change := range []func(t *api.Transfer){func(t *api.Transfer) { t.Amount++ }, func(t *api.Transfer) { t.Amount-- }, func(t *api.Transfer) { t.From, t.To = t.To, t.From }, func(t *api.Transfer) { t.From = "Other" }} {
			l := slices.Clone(due)
			change(&l[i])
			wrong = append(wrong, l)
		}
		for k, l := range wrong {
			if accept(paid, l) {
				t.Fatal(k, owed, paid, due, l)
			}
		}
		if accept(all, due) {
			t.Fatal("twice:", owed, paid, due)
		}
	})
}

func TestNothingElse(t *testing.T) { // P45.3
	each(t, 2, func(r *rand.Rand, accept func(paid, due []api.Transfer) bool, owed, paid, due []api.Transfer) {
		for range 20 {
			l := random(r)
			if !accept(paid, l) {
				continue
			}
			slices.SortFunc(l, func(a, b api.Transfer) int {
				return map[bool]int{true: -1, false: 1}[a.From+" "+a.To < b.From+" "+b.To]
			})
			if !slices.Equal(l, due) {
				t.Fatal(owed, paid, due, l)
			}
		}
	})
}

func TestBalances(t *testing.T) { // P45.6 and P45.7
	each(t, 3, func(r *rand.Rand, _ func(paid, due []api.Transfer) bool, owed, paid, due []api.Transfer) {
		all := append(slices.Clone(paid), due...)
		a, err := audit.Net(owed)
		b, err2 := audit.Net(all)
		sum := 0
		for _, s := range a {
			sum += s.Amount
		}
		if !slices.Equal(a, b) || sum != 0 || err != api.OK || err2 != api.OK {
			t.Fatal(owed, paid, due, a, b)
		}
		r.Shuffle(len(all), func(i, j int) { all[i], all[j] = all[j], all[i] })
		more := append(all, pays("p", "q", 7), pays("q", "p", 7))
		if c, err := audit.Net(more); !slices.Equal(a, c) || err != api.OK {
			t.Fatal(more, a, c)
		}
	})
}
