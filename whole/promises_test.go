// Package whole tests the promises that hold for all layers.
package whole

import (
	"math"
	"reflect"
	"slices"
	"strings"
	"testing"

	"bogie/api"
	"bogie/audit"
	"bogie/book"
	"bogie/bound"
	"bogie/catalog"
	"bogie/chain"
	"bogie/check"
	"bogie/concede"
	"bogie/conflict"
	"bogie/cost"
	"bogie/course"
	"bogie/day"
	"bogie/depot"
	"bogie/digest"
	"bogie/disk"
	"bogie/due"
	"bogie/duty"
	"bogie/event"
	"bogie/fault"
	"bogie/fleet"
	"bogie/forecast"
	"bogie/formula"
	"bogie/game"
	"bogie/ground"
	"bogie/history"
	"bogie/hold"
	"bogie/interval"
	"bogie/judge"
	"bogie/keep"
	"bogie/lexer"
	"bogie/life"
	"bogie/link"
	"bogie/meaning"
	"bogie/migrate"
	"bogie/money"
	"bogie/net"
	"bogie/place"
	"bogie/play"
	"bogie/possible"
	"bogie/proof"
	"bogie/reasons"
	"bogie/recall"
	"bogie/record"
	"bogie/release"
	"bogie/report"
	"bogie/rule"
	"bogie/sample"
	"bogie/script"
	"bogie/search"
	"bogie/settle"
	"bogie/shop"
	"bogie/sign"
	"bogie/spec"
	"bogie/store"
	"bogie/task"
	"bogie/typing"
)

var (
	numbers = []int{math.MinInt, -1, 0, 1, 2, api.MaxDay + 1, math.MaxInt}
	texts   = []string{"", "x", "\x00\xff", "a b", strings.Repeat("(", 20000), strings.Repeat("x", 20001), strings.Repeat("5:", 9000), "rule r for", "sure\n", "{{", `"`, "make 0 a", "99999999999999999999:x"}
)

// results calls a function for each of some arguments, and returns what it returns.
func results[A any](l []A, call func(a A) []any) []any {
	var all []any
	for _, a := range l {
		all = append(all, call(a)...)
	}
	return all
}

func of(l ...any) []any { return l }

func formulas() []api.Formula {
	loop := api.Formula{Op: api.FormNumber, Kids: make([]api.Formula, 2)}
	loop.Kids[0] = api.Formula{Op: api.FormAdd, Kids: loop.Kids}
	return []api.Formula{{}, {Op: math.MaxInt}, {Op: api.FormAdd}, {Op: api.FormIf, Kids: make([]api.Formula, 3)}, {Op: api.FormNumber, N: math.MinInt}, loop, sample.Setup().Damage}
}

func conditions() []api.Expr {
	loop := api.Expr{Op: api.ExprNot, Kids: make([]api.Expr, 1)}
	loop.Kids[0] = loop
	return []api.Expr{{}, {Op: -1}, {Op: api.ExprNot}, {Op: api.ExprAll, Name: "a"}, {Op: api.ExprLimit, Name: "km", N: math.MaxInt, Extra: 1}, loop, {Op: api.ExprTrue}}
}

func steps() []api.Step {
	loop := api.Step{Op: api.StepSplit, Kids: make([]api.Step, 2)}
	loop.Kids[0], loop.Kids[1] = loop, loop
	return []api.Step{{}, {Op: api.StepSplit, Report: math.MaxInt, Kids: make([]api.Step, 2)}, {Op: api.StepFalse}, {Op: api.StepHolds}, loop}
}

func events() []api.Event {
	return []api.Event{{}, {Op: math.MaxInt, Day: math.MinInt}, {Op: api.OpFit, Day: 5, Part: "a", Into: "a", Slot: "s"}, {Op: api.OpRun, Part: "a", Use: api.Use{Km: sample.In(math.MinInt, math.MaxInt)}}, sample.Event("make 0 a axle")}
}

func reports() []api.Report {
	return []api.Report{{}, {Doubtful: true}, {Options: events()}, {Options: make([]api.Event, 9)}, sample.Report("? make 0 v1 coach")}
}

func states() []api.State {
	return []api.State{{}, {Parts: []api.Part{{Name: "a", Into: "b"}, {Name: "b", Into: "a"}, {Name: "a"}}}, {Parts: make([]api.Part, 3)}, {Parts: []api.Part{{Name: "a", Made: math.MaxInt, Since: math.MinInt, Life: api.Life{Km: sample.In(math.MaxInt, math.MinInt)}}}}}
}

func catalogs() []api.Catalog {
	return []api.Catalog{{}, {Kinds: make([]api.Kind, 2)}, {Kinds: []api.Kind{{Name: "k", Slots: []api.Slot{{Name: "s", Normal: math.MinInt, Kinds: []string{"k"}}, {Normal: math.MaxInt}}}}}, sample.Kinds()}
}

func setups() []api.Setup {
	var l []api.Setup
	for _, c := range catalogs() {
		for _, f := range formulas() {
			l = append(l, api.Setup{Catalog: c, Damage: f})
		}
	}
	return l
}

func rules() []api.Rule {
	var l []api.Rule
	for _, e := range conditions() {
		l = append(l, api.Rule{Cond: e}, api.Rule{Name: "r", Kind: "coach", Cond: e})
	}
	return l
}

func books() []api.Book {
	return []api.Book{{}, {Rules: rules(), Recalls: rules(), Subs: make([]api.Sub, 2), Duties: []api.Duty{{}, {Name: "d", Kind: "coach", Key: "k", After: 1, Within: math.MaxInt}}, Concessions: make([]api.Concession, 1), Holds: []api.Hold{{}, {Vehicle: "v1", Members: []int{math.MinInt}}}}}
}

func games() []api.Game {
	return []api.Game{{}, {Budget: math.MinInt}, {Budget: math.MaxInt}, {Starts: make([]int, 99)}, {Starts: []int{math.MaxInt}}, {Starts: []int{1}, Departures: [][]int{{math.MaxInt}, {-1}}}, {Starts: []int{1}, Departures: [][]int{{0}}, Budget: 1}}
}

func positions() []api.Position {
	return []api.Position{{}, {Turn: math.MinInt, Starts: []int{math.MaxInt}, Failed: []bool{true}, Budget: math.MaxInt, Choice: math.MaxInt, Bound: math.MinInt}, {Starts: []int{1}, Failed: []bool{false}, Budget: 1, Choice: 5, Bound: math.MaxInt}, {Starts: []int{1}, Failed: []bool{true}, Choice: -1, Bound: 1}}
}

func records() []api.Record {
	l := append(sample.OfEachKind(), api.Record{}, api.Record{Kind: math.MaxInt, Number: math.MinInt, Members: make([]int, 99)})
	for _, e := range conditions() {
		l = append(l, api.Record{Kind: api.RecRule, Number: 1, Clock: 1, Amendment: api.Amendment{Rule: api.Rule{Name: "r", Kind: "k", Cond: e}}})
	}
	return l
}

// basics has calls of layers 1 to 12.
func basics() map[string]func() []any {
	return map[string]func() []any{
		"digest": func() []any {
			return results(texts, func(s string) []any { return of(digest.Sum(s), digest.List([]string{s}), digest.Is(s)) })
		},
		"sign": func() []any {
			return results(numbers, func(n int) []any {
				p, err := sign.Public("s", n)
				s, err2 := sign.Sign("s", n, n, "m")
				return of(p, err, s, err2, sign.Verify(p, "m", s), sign.Verify("", "", api.Seal{Index: n, Path: make([]string, 70)}))
			})
		},
		"money": func() []any {
			return append(results(numbers, func(n int) []any {
				l, err := money.Split(n, numbers)
				p, err2 := money.Percent(n, n)
				s, err3 := money.Text(n)
				return of(l, err, p, err2, s, err3)
			}), results(texts, func(s string) []any { n, err := money.Parse(s); return of(n, err) })...)
		},
		"interval": func() []any {
			return results(numbers, func(n int) []any {
				i, j := sample.In(n, n), sample.In(-1, n)
				return of(interval.Valid(i), interval.Add(i, j), interval.Sub(i, j), interval.Mul(i, j), interval.Join(i, j), interval.Over(i, n), interval.Not(api.Truth(n)), interval.And(api.Truth(n), 1), interval.Or(api.Truth(n), 1))
			})
		},
		"lexer": func() []any {
			return results(texts, func(s string) []any {
				l, err, at := lexer.Lex(s)
				return of(l, err, at, lexer.Quote(s), lexer.Name(s))
			})
		},
		"day": func() []any {
			return append(results(numbers, func(n int) []any {
				y, m, d, err := day.Date(n)
				k, err2 := day.Number(n, n, n)
				l, err3 := day.Number(n, 2, 29)
				s, err4 := day.Text(n)
				o, err5 := day.Months(n, n)
				return of(y, m, d, err, k, err2, l, err3, s, err4, o, err5)
			}), results(texts, func(s string) []any { n, err := day.Parse(s); return of(n, err) })...)
		},
		"formula": func() []any {
			return append(results(formulas(), func(f api.Formula) []any {
				s, err := formula.Text(f)
				return of(formula.Valid(f), s, err, formula.Value(f, math.MinInt, math.MaxInt, 0), formula.Damage(f, api.Use{Km: sample.In(math.MinInt, math.MaxInt)}), formula.Damage(f, api.Use{}))
			}), results(texts, func(s string) []any { f, err, at := formula.Parse(s); return of(f, err, at) })...)
		},
		"catalog": func() []any {
			return append(results(catalogs(), func(c api.Catalog) []any {
				k, ok := catalog.Find(c, "k")
				s, err := catalog.Text(c)
				return of(catalog.Valid(c), k, ok, catalog.Takes(c, "k", "s", "k"), catalog.Normal(c, "k", "s", "k"), catalog.Normal(c, "k", "", ""), s, err)
			}), results(texts, func(s string) []any { c, err, at := catalog.Parse(s); return of(c, err, at) })...)
		},
		"event": func() []any {
			return append(results(events(), func(e api.Event) []any {
				s, err := event.Text(e)
				return of(event.Valid(e), event.Names(e), s, err)
			}), results(texts, func(s string) []any { e, err := event.Parse(s); return of(e, err) })...)
		},
		"fleet": func() []any {
			return results(catalogs(), func(c api.Catalog) []any {
				return results(states(), func(s api.State) []any {
					p, ok := fleet.Find(s, "a")
					all := of(fleet.Valid(c, s), p, ok, fleet.Root(s, "a"), fleet.Root(s, ""), fleet.Inside(s, "a"), fleet.Inside(s, ""), fleet.Same(s, s), fleet.Digest(s))
					return append(all, results(events(), func(e api.Event) []any { next, err := fleet.Apply(c, s, e); return of(next, err) })...)
				})
			})
		},
		"course": func() []any {
			return results(catalogs(), func(c api.Catalog) []any {
				s, at, err := course.Run(c, events())
				return append(of(course.Sort(events()), s, at, err), results(numbers, func(n int) []any { s, at, err := course.At(c, events(), n); return of(s, at, err) })...)
			})
		},
		"life": func() []any {
			return results(setups(), func(x api.Setup) []any {
				return results(numbers, func(n int) []any {
					s, at, err := life.Run(x, events(), n)
					v, err2 := life.Value(states()[3].Parts[0], "age", n)
					return of(s, at, err, v, err2, life.Is("x"))
				})
			})
		},
	}
}

// doubts has calls of layers 13 to 19, 29 to 34, and 43 to 45.
func doubts() map[string]func() []any {
	l := reports()
	lists := [][]api.Report{nil, l, l[4:], {l[4], l[0]}}
	choices := [][]int{nil, {0}, {-1}, {math.MinInt}, numbers}
	return map[string]func() []any{
		"report": func() []any {
			return append(results(l, func(r api.Report) []any {
				s, err := report.Text(r)
				e, err2 := report.Picked([]api.Report{r}, []int{math.MaxInt})
				return of(report.Valid(r), report.Choices(r), report.Names(r), s, err, e, err2)
			}), results(texts, func(s string) []any { r, err := report.Parse(s); return of(r, err) })...)
		},
		"link": func() []any {
			return results(lists, func(l []api.Report) []any { return of(link.Components(l), link.Of(l, "a"), link.Doubts(l)) })
		},
		"history": func() []any {
			return results(lists, func(l []api.Report) []any {
				return results(choices, func(c []int) []any {
					at, err := history.Fails(sample.Kinds(), l, c)
					return of(history.Is(sample.Kinds(), l, c), at, err, history.False(api.Catalog{}, l, c))
				})
			})
		},
		"search, possible, bound and place": func() []any {
			return results(lists, func(l []api.Report) []any {
				return results(numbers, func(n int) []any {
					a, err := search.All(sample.Kinds(), l, n)
					b, err2 := search.Count(sample.Kinds(), l, n)
					c, err3 := search.First(sample.Kinds(), l)
					d, err4 := possible.Choices(sample.Kinds(), l)
					e, err5 := possible.Sure(sample.Kinds(), l)
					f, err6 := bound.Life(sample.Setup(), l, "v1", n)
					g, err7 := bound.Value(api.Setup{}, l, "v1", "days", n)
					h, err8 := place.Of(sample.Kinds(), l, "v1", n)
					i, err9 := place.Occupants(sample.Kinds(), l, "v1", "", n)
					j, err10 := place.Roots(sample.Kinds(), l, "", n)
					return of(a, err, b, err2, c, err3, d, err4, e, err5, f, err6, g, err7, h, err8, i, err9, j, err10)
				})
			})
		},
		"proof, release and check": func() []any {
			return results(lists, func(l []api.Report) []any {
				all := results(steps(), func(p api.Step) []any {
					s, err := proof.Text(p)
					v := api.Verdict{Kind: api.VerdictReleased, Proof: p}
					return of(proof.Size(p), proof.Histories(l, p), s, err, check.Accept(sample.Setup(), api.Book{}, l, "v1", 5, v))
				})
				for _, n := range numbers {
					p, err := proof.Build(sample.Kinds(), l, n)
					all = append(all, p, err, release.Decide(sample.Setup(), books()[1], l, "v1", n), check.Accept(sample.Setup(), books()[1], l, "v1", n, api.Verdict{Kind: n}))
				}
				return append(all, results(texts, func(s string) []any { p, err := proof.Parse(s); return of(p, err) })...)
			})
		},
		"recall, reasons and ground": func() []any {
			return results(lists, func(l []api.Report) []any {
				return results(rules(), func(r api.Rule) []any {
					a, err := recall.Concerned(sample.Setup(), l, r, 5)
					b, err2 := ground.Vehicles(sample.Setup(), l, r, math.MinInt)
					c, err3 := ground.Past(sample.Setup(), l, r, "v1", numbers)
					d, err4 := reasons.Of(sample.Setup(), books()[1], l, "v1", 5, []int{0})
					return of(a, err, b, err2, c, err3, d, err4, ground.Grounded(sample.Setup(), books()[1], l, math.MaxInt))
				})
			})
		},
		"cost, settle and audit": func() []any {
			ws := []api.Warranty{{}, {Kind: "k", Maker: "m", Days: math.MinInt, Km: math.MaxInt}}
			ts := []api.Transfer{{}, {From: "a", To: "b", Amount: math.MaxInt}, {From: "b", To: "a", Amount: math.MinInt}}
			return results(lists, func(l []api.Report) []any {
				return results(numbers, func(n int) []any {
					c := api.Cost{Part: "a", Owner: "o", Day: n, Amount: n}
					a, err := cost.Shares(nil, states()[1], c)
					b, open, err2 := cost.Sure(sample.Setup(), ws, l, c)
					d, err3 := settle.Owed(sample.Setup(), nil, l, []api.Cost{c})
					e, err4 := settle.Due(ts, ts)
					f, err5 := audit.Net(ts)
					return of(a, err, b, open, err2, d, err3, e, err4, f, err5, audit.Accept(sample.Setup(), ws, l, []api.Cost{c}, ts, ts), audit.Accept(sample.Setup(), nil, l, []api.Cost{c}, nil, nil))
				})
			})
		},
	}
}

// papers has calls of layers 20 to 28, and 35 to 42.
func papers() map[string]func() []any {
	return map[string]func() []any{
		"rule, typing, meaning, conflict and fault": func() []any {
			return append(results(rules(), func(r api.Rule) []any {
				s, err := rule.Text(r)
				names, is := conflict.Contradiction(rules(), "coach")
				all := of(rule.Valid(r), s, err, typing.Check(sample.Kinds(), r), typing.Currencies(r.Cond), names, is, conflict.Dead(rules()))
				return append(all, results(states(), func(s api.State) []any {
					return of(meaning.Holds(s, r.Cond, "a", math.MinInt), meaning.Holds(s, r.Cond, "a", 5), fault.Of(sample.Setup(), books()[1], events(), "a", 5))
				})...)
			}), results(texts, func(s string) []any {
				r, err, at := rule.Parse(s)
				return of(r, err, at, typing.Kinds(catalogs()[2], s))
			})...)
		},
		"book and migrate": func() []any {
			return results(numbers, func(n int) []any {
				l := []api.Amendment{{}, {Clock: n, From: n, To: n, Rule: rules()[1]}, {To: 9, Rule: rules()[len(rules())-1]}}
				a, err := migrate.Scale(sample.In(n, n), n, n)
				b, err2 := migrate.Chain(sample.In(0, n), numbers)
				c, err3 := migrate.Left(sample.In(0, n), n)
				return of(book.InForce(l, n, n), book.Days(l, n), a, err, b, err2, c, err3)
			})
		},
		"duty and concede": func() []any {
			return results(numbers, func(n int) []any {
				d := books()[1].Duties
				all := of(duty.Overdue(d, sample.Kinds(), events(), "a", n), duty.Open(d, sample.Kinds(), events()[4:], "a", n), concede.Exempt(books()[1].Concessions, "", "", n))
				return append(all, results(states(), func(s api.State) []any {
					return of(concede.Permitted(catalogs()[2], books()[1].Subs, s, "a", n))
				})...)
			})
		},
		"due and forecast": func() []any {
			return results(numbers, func(n int) []any {
				u := api.Use{Km: sample.In(0, n)}
				a, err := due.Days(sample.Setup(), nil, api.State{}, "a", n, u)
				b, ok := due.First([]api.Due{{Day: n}, {Day: -n}})
				c, err2 := forecast.Range(sample.Setup(), api.Life{Km: sample.In(n, n)}, [][]api.Use{{u}, nil})
				d, e, err3 := forecast.Reach(sample.Setup(), api.Life{}, [][]api.Use{{u}}, "km", n)
				return of(a, err, b, ok, c, err2, d, e, err3)
			})
		},
		"task and shop": func() []any {
			return results(numbers, func(n int) []any {
				l := []api.Task{{Hours: n, Skill: n, After: []int{n}}, {Hours: 1, After: []int{0}}}
				a, err := task.Order(l)
				b, err2 := task.Critical(l)
				c, err3 := task.Undo(l[1:], []bool{true}, n)
				s := api.Shop{Staff: []int{n}, Bays: n}
				d, err4 := shop.Plan([]api.Task{{Hours: 1}}, s)
				e, err5 := shop.Length([]api.Task{{Hours: 1}}, []int{n})
				return of(task.Valid(l), a, err, b, err2, task.Ready(l, nil), c, err3, d, err4, shop.Check([]api.Task{{Hours: 1}}, s, []int{n}), e, err5)
			})
		},
		"game, play and judge": func() []any {
			return results(games(), func(g api.Game) []any {
				a, err := game.Value(g)
				b, err2 := game.Plan(g)
				c, err3 := play.Lost(g, positions(), numbers)
				d, err4 := play.Lost(g, positions(), []int{0})
				e, f, err5 := play.Worst(g, positions())
				return of(game.Valid(g), a, err, b, err2, c, err3, d, err4, e, f, err5, judge.Accept(g, positions(), math.MaxInt), judge.Accept(g, b, math.MinInt))
			})
		},
	}
}

// depots has calls of layers 39, and 46 to 54.
func depots() map[string]func() []any {
	return map[string]func() []any{
		"hold": func() []any {
			ids := make([]string, len(records()))
			return of(hold.All(ids, records()), hold.All(nil, records()), hold.Out(api.Hold{Members: numbers}), hold.On(books()[1].Holds, "v1"))
		},
		"disk": func() []any {
			return results(numbers, func(n int) []any {
				d := disk.New(2)
				d.Arm(n, n, n)
				err := d.Write(n, strings.Repeat("x", 64))
				err2 := d.Write(0, strings.Repeat("x", 64))
				s, err3 := d.Read(n)
				d.Fail(n, n)
				d.Start()
				d.Rot(n, n, n)
				return of(err, err2, s, err3, d.Sync(), d.Raw(), disk.New(n) == nil)
			})
		},
		"store and depot": func() []any {
			return results(texts, func(s string) []any {
				d := disk.New(20)
				p, err := store.Open(d)
				all := of(err, p.Commit(map[string]string{s: s}, []string{s + "x"}), p.Commit(nil, []string{s}), p.Keys(), p.Compact(), d.Raw())
				_, err2 := depot.Open(api.World{}, d)
				w, err3 := depot.Open(sample.World(1), disk.New(20))
				v, err4 := w.Verdict(s, math.MinInt)
				g, err5 := w.Grounded(math.MaxInt)
				t, err6 := w.Due()
				return append(all, err2, err3, v, err4, g, err5, t, err6, w.Receive(s), w.Texts(), w.Move(s, math.MinInt), w.Compact())
			})
		},
		"record, chain, keep and spec": func() []any {
			l := records()
			c := chain.New()
			all := results(l, func(r api.Record) []any {
				s, err := record.Text(r)
				m, err2 := record.Make(r, "s", math.MinInt)
				return of(record.Valid(r), record.Id(r), s, err, m, err2, record.Check(r, nil), c.Add(r))
			})
			due, err := spec.Due(l, sample.World(1))
			all = append(all, c.Order(), c.Waiting(), c.Forked(), keep.Keep(l), spec.Valid(api.World{}), spec.Known(l, sample.World(1)), spec.Reports(l, api.World{}), spec.Book(l, sample.World(1), math.MinInt), spec.Verdict(l, sample.World(1), "", math.MaxInt), spec.Grounded(l, sample.World(1), -1), due, err)
			return append(all, results(texts, func(s string) []any { r, err := record.Parse(s); return of(r, err) })...)
		},
		"net": func() []any {
			n, _ := net.New(2)
			all := results(numbers, func(i int) []any {
				s, err := n.Deliver(i, 1, i, true)
				_, err2 := net.New(i)
				return of(n.Send(0, i, "m"), n.Waiting(i, 1), s, err, err2, n.Lose(0, 1, i-1), n.Spoil(0, 1, 0, i, i))
			})
			return append(all, results(texts, func(s string) []any {
				o, err := net.Offer(texts)
				a, err2 := net.Answer(texts, s)
				return of(o, err, a, err2)
			})...)
		},
		"script": func() []any {
			return results(append(slices.Clone(texts), `open 1; report 9999999 at 0 ""; verdict 0 v 9999999; crash 0;`, `catalog "x"; open 3; send 0 2; hold 0 at 0 v 5 5;`), func(s string) []any {
				lines, err, at := script.Run(s)
				return of(lines, err, at)
			})
		},
	}
}

// Each call ends without a panic, whatever its arguments are, and with the same results if it is repeated.
func TestEveryArgument(t *testing.T) { // P1 and P3
	for _, calls := range []map[string]func() []any{basics(), doubts(), papers(), depots()} {
		for name, call := range calls {
			t.Run(name, func(t *testing.T) {
				a, b := call(), call()
				if !reflect.DeepEqual(a, b) {
					t.Error("not reproducible")
				}
			})
		}
	}
}
