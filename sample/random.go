package sample

import (
	"strconv"

	"bogie/api"
)

// parts are those of random events, with their kinds.
func parts() [][2]string {
	return [][2]string{{"a1", "axle"}, {"a2", "axle"}, {"w1", "wheelset"}, {"w2", "wheelset"}, {"m1", "motor"}, {"v1", "coach"}, {"v2", "coach"}}
}

// RandomEvent returns an event of a day for one of the parts a1, a2, w1, w2, m1, v1 and v2; pick chooses a number that is less than another one.
func RandomEvent(pick func(n int) int, day int) api.Event {
	l := parts()
	p := l[pick(len(l))]
	e := api.Event{Op: api.OpMake + pick(7), Day: day, Part: p[0]}
	switch e.Op {
	case api.OpMake:
		e.Kind = p[1]
	case api.OpFit:
		return randomFit(pick, e)
	case api.OpRun:
		e.Part = l[5+pick(2)][0]
		km, cycles := pick(50), pick(5)
		e.Use = api.Use{Km: In(km, km+pick(20)), Cycles: In(cycles, cycles), Load: In(0, pick(9))}
	case api.OpNote:
		e.Key, e.Value = "batch", []string{"A", "B"}[pick(2)]
	}
	return e
}

// randomFit returns an event that fits a part where its kind belongs.
func randomFit(pick func(n int) int, e api.Event) api.Event {
	switch pick(3) {
	case 0:
		e.Part, e.Into, e.Slot = "a"+strconv.Itoa(1+pick(2)), "w"+strconv.Itoa(1+pick(2)), "axle"
	case 1:
		e.Part, e.Into, e.Slot = "w"+strconv.Itoa(1+pick(2)), "v"+strconv.Itoa(1+pick(2)), []string{"front", "rear"}[pick(2)]
	default:
		e.Part, e.Into, e.Slot = []string{"m1", "a1"}[pick(2)], "v"+strconv.Itoa(1+pick(2)), "m"
	}
	return e
}

// RandomEvents returns the making of all these parts, and a number of further events, on increasing days.
func RandomEvents(pick func(n int) int, number int) []api.Event {
	var l []api.Event
	for _, p := range parts() {
		l = append(l, api.Event{Op: api.OpMake, Day: pick(2), Part: p[0], Kind: p[1]})
	}
	for i := range number {
		e := RandomEvent(pick, 2+i)
		if e.Op != api.OpMake && (e.Op != api.OpScrap || pick(4) == 0) {
			l = append(l, e)
		}
	}
	return l
}

// RandomReports returns reports of such events, some of which have two options, or may be false.
func RandomReports(pick func(n int) int, number, doubts int) []api.Report {
	var l []api.Report
	for _, e := range RandomEvents(pick, number) {
		r := api.Report{Options: []api.Event{e}}
		if e.Op != api.OpMake && doubts > 0 && pick(2) == 0 {
			doubts--
			other := RandomEvent(pick, e.Day+pick(2))
			r.Doubtful = pick(2) == 0 || other == e
			if other != e && pick(3) > 0 {
				r.Options = append(r.Options, other)
			}
		}
		l = append(l, r)
	}
	return l
}

// RandomCond returns a valid condition about coaches and their parts, with at most some levels.
func RandomCond(pick func(n int) int, levels int) api.Expr {
	name := func(l ...string) string { return l[pick(len(l))] }
	op := api.ExprTrue + pick(12)
	if levels == 0 && (op <= api.ExprOr || op == api.ExprAll || op == api.ExprAny) {
		op = api.ExprLimit
	}
	e := api.Expr{Op: op}
	kids := 0
	switch op {
	case api.ExprNot:
		kids = 1
	case api.ExprAnd, api.ExprOr:
		kids = 2 + pick(2)
	case api.ExprLimit, api.ExprOver:
		e.Name, e.N = name("km", "cycles", "damage", "days", "age"), pick(60)
		if op == api.ExprLimit {
			e.Extra = pick(2) * pick(20)
		}
	case api.ExprIs, api.ExprHas:
		e.Name = name("batch", "owner")
		if op == api.ExprIs {
			e.Value = name("A", "B", "\"\\\n")
		}
	case api.ExprFitted:
		e.Name, e.Value = name("front", "rear", "m", "axle"), name("axle", "wheelset", "motor")
	case api.ExprAll, api.ExprAny:
		e.Name, kids = name("axle", "wheelset", "motor"), 1
	case api.ExprCount:
		e.Name, e.N = name("axle", "wheelset"), 1+pick(2)
	}
	for range kids {
		e.Kids = append(e.Kids, RandomCond(pick, levels-1))
	}
	return e
}

// RandomBook returns a book with a few of each of its papers, for coaches v1 and v2 and their parts.
func RandomBook(pick func(n int) int) api.Book {
	var b api.Book
	kind := func() string { return []string{"coach", "wheelset", "axle"}[pick(3)] }
	part := func() string { return parts()[pick(7)][0] }
	for i := range pick(3) {
		b.Rules = append(b.Rules, api.Rule{Name: "r" + strconv.Itoa(i), Kind: kind(), Cond: RandomCond(pick, 1)})
	}
	for range pick(2) {
		b.Subs = append(b.Subs, api.Sub{Kind: "coach", Slot: "m", Other: "axle", To: pick(40)})
	}
	for i := range pick(2) {
		b.Duties = append(b.Duties, api.Duty{Name: "d" + strconv.Itoa(i), Kind: kind(), Key: "batch", After: api.OpMake + pick(7), Within: pick(20)})
	}
	for range pick(3) {
		b.Concessions = append(b.Concessions, api.Concession{Part: part(), Rule: "r" + strconv.Itoa(pick(2)), To: pick(40)})
	}
	for i := range pick(2) {
		b.Recalls = append(b.Recalls, api.Rule{Name: "q" + strconv.Itoa(i), Kind: kind(), Cond: RandomCond(pick, 1)})
	}
	for i := range pick(2) {
		h := api.Hold{Id: "h" + strconv.Itoa(i), Vehicle: part(), Members: []int{0, 1}}
		h.Back = h.Members[:pick(3)]
		b.Holds = append(b.Holds, h)
	}
	return b
}

// RandomGame returns a small game with at most some vehicles and departures.
func RandomGame(pick func(n int) int, vehicles, departures int) api.Game {
	g := api.Game{Budget: pick(3)}
	for range 1 + pick(vehicles) {
		g.Starts = append(g.Starts, pick(3))
	}
	for range pick(departures + 1) {
		var allowed []int
		for v := range g.Starts {
			if pick(3) > 0 {
				allowed = append(allowed, v)
			}
		}
		g.Departures = append(g.Departures, allowed)
	}
	return g
}

// RandomCosts returns warranties of a few makers, and costs for random parts.
func RandomCosts(pick func(n int) int) ([]api.Warranty, []api.Cost) {
	var ws []api.Warranty
	var costs []api.Cost
	name := func(l ...string) string { return l[pick(len(l))] }
	for range 1 + pick(3) {
		ws = append(ws, api.Warranty{Kind: name("axle", "coach", "wheelset"), Maker: name("Forge", "Mill", "Rail"), Days: pick(30), Km: pick(150), Percent: pick(101)})
	}
	for range 1 + pick(4) {
		costs = append(costs, api.Cost{Part: parts()[pick(7)][0], Owner: name("Rail", "Line", "Mill"), Day: pick(25), Amount: pick(2000)})
	}
	return ws, costs
}
