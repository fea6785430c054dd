package record_test

import (
	"math"
	"reflect"
	"slices"
	"strings"
	"testing"

	"bogie/api"
	"bogie/copies"
	"bogie/digest"
	"bogie/joined"
	"bogie/record"
	"bogie/sample"
	"bogie/sign"
)

const target = "0123456789abcdef"

func change(r api.Record, f func(r *api.Record)) api.Record {
	r = copies.Record(r)
	f(&r)
	return r
}

// refused checks that a record is not valid, in all functions.
func refused(t *testing.T, r api.Record) {
	t.Helper()
	s, err := record.Text(r)
	m, err2 := record.Make(change(r, func(r *api.Record) {}), "s", 8)
	if record.Valid(r) || record.Id(r) != "" || s != "" || err != api.ErrArg || record.Check(r, sample.Keys(2)) != api.ErrArg {
		t.Error(r)
	}
	if r.Seal.Index == 0 && len(r.Seal.Sig)+len(r.Seal.Path) == 0 && (err2 != api.ErrArg || !reflect.DeepEqual(m, api.Record{})) {
		t.Error(r, err2)
	}
}

func seal() api.Seal {
	s, _ := sign.Sign("x", 2, 1, "m")
	return s
}

func TestValid(t *testing.T) { // P48.1: AV1, and P48.7
	for _, r := range sample.OfEachKind() {
		for i, f := range []func(r *api.Record){
			func(r *api.Record) {}, func(r *api.Record) { r.Author = 59 }, func(r *api.Record) { r.Clock = 1000000 }, func(r *api.Record) { r.Number, r.Prev = 2, target }, func(r *api.Record) { r.Number, r.Prev = 256, target }, func(r *api.Record) { r.Seal = seal() }, func(r *api.Record) { r.Seal = seal(); r.Seal.Index = 255 }, func(r *api.Record) { r.Seal = seal(); r.Seal.Path = nil }, func(r *api.Record) { r.Members = append([]int{}, r.Members...) },
		} {
			if !record.Valid(change(r, f)) {
				t.Error(r.Kind, i)
			}
		}
		for _, f := range []func(r *api.Record){
			func(r *api.Record) { r.Author = -1 }, func(r *api.Record) { r.Author = 60 }, func(r *api.Record) { r.Clock = 0 }, func(r *api.Record) { r.Clock = 1000001 }, func(r *api.Record) { r.Number = 0 }, func(r *api.Record) { r.Number = 2 }, func(r *api.Record) { r.Prev = target }, func(r *api.Record) { r.Number, r.Prev = 257, target }, func(r *api.Record) { r.Number, r.Prev = 2, "x" }, func(r *api.Record) { r.Kind = 0 }, func(r *api.Record) { r.Kind = 11 }, func(r *api.Record) { r.Kind = -1 },
			func(r *api.Record) { r.Seal.Index = 1 }, func(r *api.Record) { r.Seal = seal(); r.Seal.Index = 256 }, func(r *api.Record) { r.Seal = seal(); r.Seal.Index = -1 }, func(r *api.Record) { r.Seal = seal(); r.Seal.Sig = r.Seal.Sig[1:] }, func(r *api.Record) { r.Seal = seal(); r.Seal.Sig[4] = "x" }, func(r *api.Record) { r.Seal = seal(); r.Seal.Path[1] = "" }, func(r *api.Record) { r.Seal.Path = []string{target} }, func(r *api.Record) { r.Seal = seal(); r.Seal.Path = slices.Repeat([]string{target}, 9) }, func(r *api.Record) { r.Seal = seal(); r.Seal.Sig = append(r.Seal.Sig, target) },
		} {
			refused(t, change(r, f))
		}
	}
	l := sample.OfEachKind()
	if r := change(l[1], func(r *api.Record) { r.Report = api.Report{} }); !record.Valid(r) {
		t.Error(r)
	}
	for kind, fs := range map[int][]func(r *api.Record){
		api.RecReport:  {func(r *api.Record) { r.Report = api.Report{} }, func(r *api.Record) { r.Report.Options[1] = r.Report.Options[0] }},
		api.RecCorrect: {func(r *api.Record) { r.Target = "" }, func(r *api.Record) { r.Target = "x" }, func(r *api.Record) { r.Report = api.Report{Doubtful: true} }, func(r *api.Record) { r.Report.Options[0].Op = 0 }},
		api.RecRule:    {func(r *api.Record) { r.Amendment.Clock = 1 }, func(r *api.Record) { r.Amendment.From = 41 }, func(r *api.Record) { r.Amendment.From = -1 }, func(r *api.Record) { r.Amendment.To = 40001 }, func(r *api.Record) { r.Amendment.Rule.Name = "" }, func(r *api.Record) { r.Amendment.Rule = long(59, 200) }},
		api.RecConcede: {func(r *api.Record) { r.Concession.Part = "" }, func(r *api.Record) { r.Concession.Rule = "a b" }, func(r *api.Record) { r.Concession.To = -1 }, func(r *api.Record) { r.Concession.To = 40001 }},
		api.RecHold:    {func(r *api.Record) { r.Name = "" }, func(r *api.Record) { r.Members = nil }, func(r *api.Record) { r.Members = []int{3, 0} }, func(r *api.Record) { r.Members = []int{3, 3} }, func(r *api.Record) { r.Members = []int{-1} }, func(r *api.Record) { r.Members = []int{60} }, func(r *api.Record) { r.Members = []int{0, 1, 2, 3, 4, 5, 6, 7, 8} }},
		api.RecBack:    {func(r *api.Record) { r.Target = "" }, func(r *api.Record) { r.Target = target + "0" }},
		api.RecRecall:  {func(r *api.Record) { r.Text = "" }, func(r *api.Record) { r.Text = "rule q" }},
		api.RecClear:   {func(r *api.Record) { r.Target = "X" }},
		api.RecCost:    {func(r *api.Record) { r.Cost.Part = "" }, func(r *api.Record) { r.Cost.Owner = "" }, func(r *api.Record) { r.Cost.Day = 40001 }, func(r *api.Record) { r.Cost.Day = -1 }, func(r *api.Record) { r.Cost.Amount = -1 }, func(r *api.Record) { r.Cost.Amount = api.MaxAmount + 1 }},
		api.RecPay:     {func(r *api.Record) { r.Transfer.From = "" }, func(r *api.Record) { r.Transfer.To = r.Transfer.From }, func(r *api.Record) { r.Transfer.Amount = 0 }, func(r *api.Record) { r.Transfer.Amount = math.MaxInt }},
	} {
		for _, f := range fs {
			refused(t, change(l[kind-1], f))
		}
	}
	for i, r := range []api.Record{
		change(l[2], func(r *api.Record) { r.Amendment.From, r.Amendment.To = 0, 40000 }), change(l[2], func(r *api.Record) { r.Amendment.From, r.Amendment.To = 40000, 40000 }), change(l[2], func(r *api.Record) { r.Amendment.From, r.Amendment.To = 7, 7 }), change(l[3], func(r *api.Record) { r.Concession.To = 0 }), change(l[3], func(r *api.Record) { r.Concession.To = 40000 }), change(l[4], func(r *api.Record) { r.Members = []int{59} }), change(l[8], func(r *api.Record) { r.Cost.Day, r.Cost.Amount = 0, 0 }), change(l[8], func(r *api.Record) { r.Cost.Day, r.Cost.Amount = 40000, api.MaxAmount }), change(l[9], func(r *api.Record) { r.Transfer.Amount = 1 }), change(l[9], func(r *api.Record) { r.Transfer.Amount = api.MaxAmount }), change(l[0], func(r *api.Record) { r.Seal = seal(); r.Seal.Path = slices.Repeat([]string{target}, 8) }),
	} {
		if !record.Valid(r) {
			t.Error(i)
		}
	}
	if r := change(l[4], func(r *api.Record) { r.Members = []int{0, 1, 2, 3, 4, 5, 6, 59} }); !record.Valid(r) {
		t.Error(r)
	}
	if r := change(l[6], func(r *api.Record) { r.Text = " rule  q for a:true; # any text that is accepted" }); !record.Valid(r) {
		t.Error(r)
	}
}

// long returns a rule with some properties that have long values.
func long(n, size int) api.Rule {
	r := api.Rule{Name: "r", Kind: "axle", Cond: api.Expr{Op: api.ExprAnd}}
	for range n {
		r.Cond.Kids = append(r.Cond.Kids, api.Expr{Op: api.ExprIs, Name: "k", Value: strings.Repeat("\n", size)})
	}
	return r
}

func TestLongTexts(t *testing.T) { // P48.1: AV1 and AV3
	r := sample.OfEachKind()[2]
	r.Amendment.Rule = long(59, 160)
	r.Amendment.Rule.Name = "x"
	for size := 160; ; size++ { // find a text that is too long with a seal alone
		r.Amendment.Rule.Cond.Kids[0].Value = strings.Repeat("\n", min(size, 200))
		r.Amendment.Rule.Cond.Kids[1].Value = strings.Repeat("\n", min(max(size-40, 160), 200))
		r.Amendment.Rule.Cond.Kids[2].Value = strings.Repeat("\n", min(max(size-80, 160), 200))
		s, err := record.Text(r)
		if err != api.OK {
			t.Fatal("not found")
		}
		if len(s) > 19700 {
			break
		}
	}
	if m, err := record.Make(r, "s", 3); err != api.ErrArg || !reflect.DeepEqual(m, api.Record{}) {
		t.Error(err)
	}
	for range 20 {
		for i := range r.Amendment.Rule.Cond.Kids {
			if len(r.Amendment.Rule.Cond.Kids[i].Value) < 200 {
				r.Amendment.Rule.Cond.Kids[i].Value += "\n\n\n\n\n\n\n\n\n\n"
				break
			}
		}
	}
	refused(t, r)
}

func TestTextValues(t *testing.T) { // P48.1: AV2
	l := sample.OfEachKind()
	none := []string{"", "", "", "0", "", "0", "0", "0", "", "", "", "0", "", "", "0", "0", "", "", "0"}
	with := func(at int, e ...string) []string {
		return slices.Replace(slices.Clone(none), at, at+len(e), e...)
	}
	members := append(append(with(1, "v1", "", "2")[:4:4], "0", "3"), none[4:]...)
	for i, want := range [][]string{
		with(4, "perhaps\nmake 3 a axle\nmake 4 a axle\n"), func() []string {
			l := with(0, target)
			l[4] = "sure\nmake 3 a axle\n"
			return l
		}(), with(5, "3", "40", "1", "rule r for coach: limit km 5;\n"), with(9, "a", "r", "7"), members, with(0, target), with(2, "rule q for axle: batch = \"A\";"), with(0, "fedcba9876543210"), with(12, "a", "Rail", "5", "100"), with(16, "Forge", "Rail", "7"),
	} {
		kind := []string{"1", "2", "3", "4", "5", "6", "7", "8", "9", "10"}[i]
		all := append([]string{kind, "0", "1", "", "1"}, want...)
		bareText := joined.Text(all...)
		if s, err := record.Text(l[i]); s != bareText+joined.Text("0", "0", "0") || err != api.OK {
			t.Errorf("%q\n%q", s, bareText)
		}
		if record.Id(l[i]) != digest.Sum(bareText) {
			t.Error(i, "Id")
		}
	}
	r := change(l[5], func(r *api.Record) { r.Seal = seal() })
	want := joined.Text(append(append([]string{"1", "18"}, r.Seal.Sig...), append([]string{"2"}, r.Seal.Path...)...)...)
	if s, _ := record.Text(r); !strings.HasSuffix(s, want) {
		t.Errorf("%q", s)
	}
}

func TestTexts(t *testing.T) { // P48.2 and P48.3
	seen := map[string]bool{}
	for _, r := range sample.OfEachKind() {
		for _, f := range []func(r *api.Record){func(r *api.Record) {}, func(r *api.Record) { r.Seal = seal() }, func(r *api.Record) { r.Clock = 77 }, func(r *api.Record) { r.Number, r.Prev = 9, target }, func(r *api.Record) { r.Author = 5 }} {
			p := change(r, f)
			s, err := record.Text(p)
			got, err2 := record.Parse(s)
			if err != api.OK || err2 != api.OK || !reflect.DeepEqual(got, p) || seen[s] {
				t.Error(p, got, err, err2)
			}
			seen[s] = true
			if id := record.Id(p); !digest.Is(id) || id != record.Id(change(p, func(r *api.Record) { r.Seal = api.Seal{} })) {
				t.Error("Id", p)
			}
			for i := range s { // what is accepted is the text of its result
				b := []byte(s)
				b[i] ^= 1
				if got, err := record.Parse(string(b)); err == api.OK {
					if again, _ := record.Text(got); again != string(b) {
						t.Fatalf("%q", b)
					}
				} else if err != api.ErrSyntax || !reflect.DeepEqual(got, api.Record{}) {
					t.Fatalf("%q %d", b, err)
				}
			}
			for _, other := range []string{s + "0:", s[:len(s)-1], s + "x", "0:" + s, strings.Replace(s, "1:", "01:", 1), s + s} {
				if got, err := record.Parse(other); err != api.ErrSyntax || !reflect.DeepEqual(got, api.Record{}) {
					t.Fatalf("%q %d", other, err)
				}
			}
		}
	}
	for s, want := range map[string]api.Errno{"": api.ErrSyntax, "x": api.ErrSyntax, strings.Repeat("0:", 10000): api.ErrSyntax, strings.Repeat("0:", 10000) + "x": api.ErrLimit} {
		if got, err := record.Parse(s); err != want || !reflect.DeepEqual(got, api.Record{}) {
			t.Error(len(s), err)
		}
	}
}

func TestSigning(t *testing.T) { // P48.4, P48.6, and P48.1: AV3 and AV4
	keys := sample.Keys(2)
	for _, r := range sample.OfEachKind() {
		for _, f := range []func(r *api.Record){func(r *api.Record) {}, func(r *api.Record) { r.Number, r.Prev = 16, target }, func(r *api.Record) { r.Author = 1 }, func(r *api.Record) { r.Seal = seal() }} {
			p := change(r, f)
			before := copies.Record(p)
			m, err := record.Make(p, sample.Secret(p.Author), sample.Height)
			if err != api.OK || record.Check(m, keys) != api.OK || !reflect.DeepEqual(p, before) {
				t.Fatal(p, err)
			}
			p.Seal, _ = sign.Sign(sample.Secret(p.Author), sample.Height, p.Number-1, bareOf(t, p))
			if !reflect.DeepEqual(m, p) {
				t.Fatal(m, p)
			}
			for i, c := range []struct {
				r    api.Record
				keys []string
				want api.Errno
			}{
				{m, keys[:m.Author], api.ErrArg}, {m, nil, api.ErrArg}, {m, []string{keys[1], keys[0]}, api.ErrKey}, {change(m, func(r *api.Record) { r.Seal = api.Seal{} }), keys, api.ErrKey}, {change(m, func(r *api.Record) { r.Clock++ }), keys, api.ErrKey}, {change(m, func(r *api.Record) { r.Seal.Index ^= 1 }), keys, api.ErrKey}, {change(m, func(r *api.Record) { r.Seal.Sig[3] = target }), keys, api.ErrKey}, {change(m, func(r *api.Record) { r.Seal.Path = r.Seal.Path[1:] }), keys, api.ErrKey}, {change(m, func(r *api.Record) { r.Clock = 0 }), keys, api.ErrArg}, {change(m, func(r *api.Record) { r.Author = 1 - r.Author }), keys, api.ErrKey},
			} {
				if got := record.Check(c.r, c.keys); got != c.want {
					t.Fatal(i, got)
				}
			}
		}
		if m, err := record.Make(change(r, func(r *api.Record) { r.Number, r.Prev = 17, target }), "s", 4); err != api.ErrArg || !reflect.DeepEqual(m, api.Record{}) {
			t.Error("no such one-time key")
		}
		for _, height := range []int{-1, 9} {
			if _, err := record.Make(r, "s", height); err != api.ErrArg {
				t.Error(height, err)
			}
		}
		// The one-time key of another number is refused, also if it signs the bare text.
		wrong := change(r, func(r *api.Record) { r.Seal, _ = sign.Sign(sample.Secret(0), sample.Height, 5, bareOf(t, *r)) })
		if got := record.Check(wrong, keys); got != api.ErrKey {
			t.Error(got)
		}
	}
}

// bareOf returns the bare text of a record: its text without that of a zero seal.
func bareOf(t *testing.T, r api.Record) string {
	t.Helper()
	r.Seal = api.Seal{}
	s, err := record.Text(r)
	if err != api.OK {
		t.Fatal(err)
	}
	return strings.TrimSuffix(s, joined.Text("0", "0", "0"))
}

func TestKinds(t *testing.T) { // P48.5
	like := []int{api.RecBack, api.RecClear}
	l := sample.OfEachKind()
	l = append(l, change(l[1], func(r *api.Record) { r.Report = api.Report{} }))
	for i, r := range l {
		for kind := api.RecReport; kind <= api.RecPay; kind++ {
			same := kind == r.Kind || slices.Contains(like, kind) && (slices.Contains(like, r.Kind) || i == len(l)-1) || kind == api.RecCorrect && slices.Contains(like, r.Kind)
			if got := record.Valid(change(r, func(r *api.Record) { r.Kind = kind })); got != same {
				t.Error(r.Kind, kind, got)
			}
		}
		for k, f := range []func(r *api.Record){ // fields, with the kinds that have them
			func(r *api.Record) { r.Target = target }, func(r *api.Record) { r.Name = "v" }, func(r *api.Record) { r.Text = "rule q for a: true;" }, func(r *api.Record) { r.Members = []int{1} }, func(r *api.Record) { r.Report.Doubtful = true }, func(r *api.Record) { r.Report.Options = sample.Events("scrap 1 a") }, func(r *api.Record) { r.Amendment.From = 1 }, func(r *api.Record) { r.Amendment.To = 41 }, func(r *api.Record) { r.Amendment.Void = true }, func(r *api.Record) { r.Amendment.Rule.Name = "x" }, func(r *api.Record) { r.Amendment.Rule.Kind = "x" }, func(r *api.Record) { r.Amendment.Rule.Cond.Op = api.ExprTrue }, func(r *api.Record) { r.Amendment.Rule.Cond.Kids = []api.Expr{{}} }, func(r *api.Record) { r.Amendment.Clock = 1 }, func(r *api.Record) { r.Concession.To = 1 }, func(r *api.Record) { r.Cost.Day = 1 }, func(r *api.Record) { r.Transfer.From = "x" },
		} {
			has := [][]int{{2, 6, 8}, {5}, {7}, {5}, {1, 2}, {1, 2}, {3}, {3}, {3}, {3}, {3}, {3}, {3}, nil, {4}, {9}, {10}}[k]
			if got := record.Valid(change(r, f)); got && !slices.Contains(has, r.Kind) {
				t.Error(r.Kind, k)
			}
		}
	}
}
