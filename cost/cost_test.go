package cost_test

import (
	"fmt"
	"math/rand"
	"slices"
	"testing"

	"bogie/api"
	"bogie/cases"
	"bogie/cost"
	"bogie/fleet"
	"bogie/life"
	"bogie/money"
	"bogie/sample"
	"bogie/search"
)

var setup = sample.Setup()

func share(party string, amount int) api.Share { return api.Share{Party: party, Amount: amount} }

func forge() api.Warranty {
	return api.Warranty{Kind: "axle", Maker: "Forge", Days: 100, Km: 50, Percent: 80}
}

func axle(km int) api.State {
	return api.State{Parts: []api.Part{{Name: "a", Kind: "axle", Made: 10, Since: 10, Life: api.Life{Km: sample.In(km-10, km)}}, {Name: "a", Kind: "coach"}}}
}

func change[T any](v T, f func(v *T)) T {
	f(&v)
	return v
}

var bill = api.Cost{Part: "a", Owner: "Rail", Day: 60, Amount: 1001}

func TestShares(t *testing.T) { // P43.1: AQ1, and P43.3
	w := forge()
	with := func(f func(w *api.Warranty)) []api.Warranty { return []api.Warranty{change(w, f)} }
	maker := []api.Share{share("Forge", 801), share("Rail", 200)}
	owner := []api.Share{share("Rail", 1001)}
	for i, c := range []struct {
		ws   []api.Warranty
		km   int
		c    api.Cost
		want []api.Share
	}{
		{[]api.Warranty{w}, 40, bill, maker}, {[]api.Warranty{w}, 50, bill, maker}, {[]api.Warranty{w}, 51, bill, owner}, {[]api.Warranty{w}, 60, bill, owner}, {nil, 40, bill, owner}, {with(func(w *api.Warranty) { w.Days = 50 }), 40, bill, maker}, {with(func(w *api.Warranty) { w.Days = 49 }), 40, bill, owner}, {with(func(w *api.Warranty) { w.Kind = "motor" }), 40, bill, owner},
		{with(func(w *api.Warranty) { w.Percent = 100 }), 40, bill, []api.Share{share("Forge", 1001)}}, {with(func(w *api.Warranty) { w.Percent = 0 }), 40, bill, owner}, {with(func(w *api.Warranty) { w.Maker = "Rail" }), 40, bill, owner}, {with(func(w *api.Warranty) { w.Maker = "Zeta" }), 40, bill, []api.Share{share("Rail", 200), share("Zeta", 801)}}, {[]api.Warranty{w}, 40, change(bill, func(c *api.Cost) { c.Amount = 0 }), nil},
		{[]api.Warranty{change(w, func(w *api.Warranty) { w.Km = 30 }), change(w, func(w *api.Warranty) { w.Maker, w.Percent = "Mill", 50 }), w}, 40, bill, []api.Share{share("Mill", 500), share("Rail", 501)}}, {[]api.Warranty{w, change(w, func(w *api.Warranty) { w.Percent = 100 })}, 40, bill, maker},
	} {
		if got, err := cost.Shares(c.ws, axle(c.km), c.c); !slices.Equal(got, c.want) || err != api.OK {
			t.Error(i, got, err)
		}
	}
	edge := change(bill, func(c *api.Cost) { c.Day, c.Amount = 0, api.MaxAmount })
	wide := api.Warranty{Kind: "axle", Maker: "Forge", Days: 40000, Km: api.MaxAmount, Percent: 100}
	if got, err := cost.Shares([]api.Warranty{{Kind: "motor", Maker: "Mill"}, wide}, axle(40), edge); !slices.Equal(got, []api.Share{share("Forge", api.MaxAmount)}) || err != api.OK {
		t.Error(got, err)
	}
	if got, err := cost.Shares(nil, axle(40), change(bill, func(c *api.Cost) { c.Day, c.Amount = 40000, 1 })); !slices.Equal(got, []api.Share{share("Rail", 1)}) || err != api.OK {
		t.Error(got, err)
	}
	for i, c := range []struct {
		w    api.Warranty
		c    api.Cost
		want api.Errno
	}{
		{w, change(bill, func(c *api.Cost) { c.Part = "b" }), api.ErrNone}, {w, change(bill, func(c *api.Cost) { c.Part = "" }), api.ErrArg}, {w, change(bill, func(c *api.Cost) { c.Owner = "a b" }), api.ErrArg}, {w, change(bill, func(c *api.Cost) { c.Day = -1 }), api.ErrArg}, {w, change(bill, func(c *api.Cost) { c.Day = 40001 }), api.ErrArg}, {w, change(bill, func(c *api.Cost) { c.Amount = -1 }), api.ErrArg}, {w, change(bill, func(c *api.Cost) { c.Amount = api.MaxAmount + 1 }), api.ErrArg},
		{change(w, func(w *api.Warranty) { w.Kind = "" }), bill, api.ErrArg}, {change(w, func(w *api.Warranty) { w.Maker = "" }), bill, api.ErrArg}, {change(w, func(w *api.Warranty) { w.Days = -1 }), bill, api.ErrArg}, {change(w, func(w *api.Warranty) { w.Days = 40001 }), bill, api.ErrArg}, {change(w, func(w *api.Warranty) { w.Km = -1 }), bill, api.ErrArg}, {change(w, func(w *api.Warranty) { w.Km = api.MaxAmount + 1 }), bill, api.ErrArg}, {change(w, func(w *api.Warranty) { w.Percent = -1 }), bill, api.ErrArg}, {change(w, func(w *api.Warranty) { w.Percent = 101 }), bill, api.ErrArg},
	} {
		if got, err := cost.Shares([]api.Warranty{forge(), c.w}, axle(40), c.c); len(got) != 0 || err != c.want {
			t.Error(i, got, err)
		}
		if got, open, err := cost.Sure(setup, []api.Warranty{c.w}, sample.Reports("make 10 a axle"), c.c); len(got) != 0 || open != 0 || err != c.want {
			t.Error(i, got, err)
		}
	}
}

const train = "make 10 a axle; make 0 v coach; fit 10 a v m;"

func overhauls(n int) string {
	s := train
	for i := range n {
		s += fmt.Sprintf("? overhaul %d a;", i+20)
	}
	return s
}

func TestSure(t *testing.T) { // P43.1: AQ2, and P43.5
	ws := []api.Warranty{forge()}
	for _, c := range []struct {
		texts string
		want  []api.Share
		open  int
		err   api.Errno
	}{
		{train + "run 20 v 40 40 0 0 0 0 | run 20 v 60 60 0 0 0 0", []api.Share{share("Rail", 200)}, 801, 0}, {train + "run 20 v 40 40 0 0 0 0", []api.Share{share("Forge", 801), share("Rail", 200)}, 0, 0}, {train + "run 20 v 40 60 0 0 0 0", []api.Share{share("Rail", 1001)}, 0, 0}, {train + "run 61 v 60 60 0 0 0 0", []api.Share{share("Forge", 801), share("Rail", 200)}, 0, 0}, {train + "run 60 v 60 60 0 0 0 0", []api.Share{share("Rail", 1001)}, 0, 0},
		{"? make 10 a axle", []api.Share{share("Rail", 200)}, 801, 0}, {"make 70 a axle", []api.Share{share("Rail", 1001)}, 0, 0}, {"make 10 b axle", nil, 0, api.ErrNone}, {"", nil, 0, api.ErrNone}, {"scrap 1 a", nil, 0, api.ErrDoubt}, {overhauls(12), nil, 0, api.ErrLimit}, {overhauls(31), nil, 0, api.ErrLimit}, {overhauls(11), []api.Share{share("Forge", 801), share("Rail", 200)}, 0, 0},
	} {
		if got, open, err := cost.Sure(setup, ws, sample.Reports(c.texts), bill); !slices.Equal(got, c.want) || open != c.open || err != c.err {
			t.Errorf("%.60s: %v %d %d", c.texts, got, open, err)
		}
	}
	if _, _, err := cost.Sure(api.Setup{}, ws, nil, bill); err != api.ErrArg {
		t.Error(err)
	}
	if _, _, err := cost.Sure(setup, ws, []api.Report{{}}, bill); err != api.ErrArg {
		t.Error(err)
	}
	mill := change(forge(), func(w *api.Warranty) { w.Maker, w.Km = "Mill", 60 })
	if got, open, err := cost.Sure(setup, []api.Warranty{forge(), mill}, sample.Reports(train+"run 20 v 40 40 0 0 0 0 | run 20 v 60 60 0 0 0 0"), bill); !slices.Equal(got, []api.Share{share("Rail", 200)}) || open != 801 || err != api.OK {
		t.Error(got, open, err)
	}
	all := []api.Warranty{change(forge(), func(w *api.Warranty) { w.Percent = 100 })}
	if got, open, err := cost.Sure(setup, all, sample.Reports(train+"run 20 v 40 40 0 0 0 0 | run 20 v 60 60 0 0 0 0"), bill); len(got) != 0 || open != 1001 || err != api.OK {
		t.Error(got, open, err)
	}
}

// each calls a function with random reports, warranties and a cost, whose shares are known.
func each(seed int64, check func(r *rand.Rand, l []api.Report, ws []api.Warranty, c api.Cost)) {
	r := rand.New(rand.NewSource(seed))
	for range 200 {
		ws, costs := sample.RandomCosts(r.Intn)
		l := append(sample.RandomReports(r.Intn, 14, 5), sample.Report("run 2 v1 5 5 0 0 0 0 | run 2 v1 70 70 0 0 0 0"))
		if r.Intn(2) == 0 {
			costs[0].Part, ws[0].Kind = "v1", "coach"
		}
		if _, _, err := cost.Sure(setup, ws, l, costs[0]); err == api.OK {
			check(r, l, ws, costs[0])
		}
	}
}

// inHistories returns the shares in each history.
func inHistories(l []api.Report, ws []api.Warranty, c api.Cost) [][]api.Share {
	own := cases.About(l, c.Part)
	histories, _ := search.All(setup.Catalog, own, 4096)
	var all [][]api.Share
	for _, events := range cases.Events(own, histories) {
		s, _, _ := life.Run(setup, events, c.Day)
		shares, err := cost.Shares(ws, s, c)
		if err == api.ErrNone && c.Amount > 0 {
			shares = []api.Share{share(c.Owner, c.Amount)}
		}
		all = append(all, shares)
	}
	return all
}

func of(l []api.Share, party string) int {
	for _, s := range l {
		if s.Party == party {
			return s.Amount
		}
	}
	return 0
}

func TestHistories(t *testing.T) { // P43.2, P43.4 and P43.5
	opened := 0
	each(1, func(_ *rand.Rand, l []api.Report, ws []api.Warranty, c api.Cost) {
		all := inHistories(l, ws, c)
		got, open, _ := cost.Sure(setup, ws, l, c)
		for _, shares := range all {
			sum := 0
			for i, s := range shares {
				sum += s.Amount
				if s.Amount <= 0 || i > 0 && shares[i-1].Party >= s.Party {
					t.Fatal(shares)
				}
			}
			if sum != c.Amount || len(shares) > 2 {
				t.Fatal("lost:", c, shares)
			}
		}
		rest := c.Amount
		for _, party := range []string{"Forge", "Line", "Mill", "Rail"} {
			want := c.Amount
			for _, shares := range all {
				want = min(want, of(shares, party))
			}
			if of(got, party) != want {
				t.Fatal(l, ws, c, party, got, want)
			}
			rest -= want
		}
		if open != rest || len(all) == 1 && open != 0 || !slices.IsSortedFunc(got, func(a, b api.Share) int { return map[bool]int{true: -1, false: 1}[a.Party < b.Party] }) {
			t.Fatal(l, ws, c, got, open, rest)
		}
		if open > 0 {
			opened++
		}
	})
	if opened < 5 {
		t.Error("too few cases:", opened)
	}
}

func TestWarranties(t *testing.T) { // P43.3 and P43.7
	each(2, func(r *rand.Rand, l []api.Report, ws []api.Warranty, c api.Cost) {
		p := api.Part{Name: c.Part, Kind: ws[0].Kind, Made: r.Intn(c.Day + 1), Life: api.Life{Km: sample.In(0, r.Intn(150))}}
		covers := func(w api.Warranty) bool {
			return w.Kind == p.Kind && c.Day-p.Made <= w.Days && p.Life.Km.High <= w.Km
		}
		got, _ := cost.Shares(ws, api.State{Parts: []api.Part{p}}, c)
		want := []api.Share{}
		if i := slices.IndexFunc(ws, covers); i >= 0 && ws[i].Maker != c.Owner {
			part, _ := money.Percent(c.Amount, ws[i].Percent)
			want = append(want, share(ws[i].Maker, part), share(c.Owner, c.Amount-part))
		} else {
			want = append(want, share(c.Owner, c.Amount))
		}
		for _, s := range want {
			if of(got, s.Party) != s.Amount {
				t.Fatal(ws, p, c, got, want)
			}
		}
		older := p
		older.Made -= min(p.Made, r.Intn(9))
		older.Life.Km.High += r.Intn(50)
		if more, _ := cost.Shares(ws[:1], api.State{Parts: []api.Part{older}}, c); ws[0].Maker != c.Owner {
			if less, _ := cost.Shares(ws[:1], api.State{Parts: []api.Part{p}}, c); of(more, ws[0].Maker) > of(less, ws[0].Maker) {
				t.Fatal("older:", ws, p, older, c)
			}
		}
		if _, there := fleet.Find(api.State{Parts: []api.Part{p}}, c.Part); !there {
			t.Fatal(p)
		}
	})
}

func TestEvidence(t *testing.T) { // P43.6
	each(3, func(r *rand.Rand, l []api.Report, ws []api.Warranty, c api.Cost) {
		i := r.Intn(len(l))
		fewer := slices.Clone(l)
		fewer[i] = api.Report{Options: l[i].Options[r.Intn(len(l[i].Options)):]}
		if _, err := search.First(setup.Catalog, fewer); err != api.OK {
			return
		}
		before, open, _ := cost.Sure(setup, ws, l, c)
		after, less, err := cost.Sure(setup, ws, fewer, c)
		if err != api.OK {
			return // no report mentions the part any more
		}
		for _, s := range before {
			if of(after, s.Party) < s.Amount || less > open {
				t.Fatal(l, i, ws, c, before, after)
			}
		}
	})
}
