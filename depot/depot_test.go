package depot_test

import (
	"cmp"
	"math/rand"
	"reflect"
	"slices"
	"strings"
	"testing"

	"bogie/api"
	"bogie/depot"
	"bogie/disk"
	"bogie/keep"
	"bogie/record"
	"bogie/sample"
	"bogie/spec"
	"bogie/store"
)

func world() api.World {
	w := sample.World(2)
	w.Warranties = []api.Warranty{{Kind: "axle", Maker: "Forge", Days: 100, Km: 50, Percent: 80}}
	return w
}

func open(t *testing.T, d *disk.Disk) *depot.Depot {
	t.Helper()
	p, err := depot.Open(world(), d)
	if err != api.OK || p == nil {
		t.Fatal(err)
	}
	return p
}

func receive(t *testing.T, d *depot.Depot, l ...api.Record) {
	t.Helper()
	for _, text := range sample.Texts(l...) {
		if err := d.Receive(text); err != api.OK {
			t.Fatal(err)
		}
	}
}

// byId returns the texts of records in the order of their Ids.
func byId(l []api.Record) []string {
	l = slices.Clone(l)
	slices.SortFunc(l, func(a, b api.Record) int { return cmp.Compare(record.Id(a), record.Id(b)) })
	return slices.Compact(sample.Texts(l...))
}

func TestExample(t *testing.T) { // P52.1
	d := open(t, disk.New(400))
	var j sample.Journal
	move := func(want api.Errno, verdict int) {
		t.Helper()
		v, err := d.Verdict("c", 5)
		if got := d.Move("c", 5); got != want || v.Kind != verdict || err != api.OK {
			t.Error(got, v)
		}
	}
	move(api.ErrState, api.VerdictFault)
	receive(t, d, j.Sign(0, sample.ReportOf("make 0 c coach")))
	move(api.OK, api.VerdictReleased)
	held := j.Sign(1, api.Record{Kind: api.RecHold, Name: "c", Members: []int{0}})
	receive(t, d, held)
	move(api.ErrHold, api.VerdictFault)
	receive(t, d, j.Sign(0, api.Record{Kind: api.RecBack, Target: record.Id(held)}))
	move(api.OK, api.VerdictReleased)
	receive(t, d, j.Sign(0, sample.ReportOf("scrap 3 c")))
	move(api.ErrState, api.VerdictFault)
}

func TestOpen(t *testing.T) { // P52.1: AZ1
	bad := world()
	bad.Keys = nil
	off := disk.New(3)
	off.Fail(0, 0)
	for i, c := range []struct {
		w    api.World
		d    *disk.Disk
		want api.Errno
	}{{bad, off, api.ErrArg}, {bad, nil, api.ErrArg}, {world(), nil, api.ErrArg}, {world(), off, api.ErrPower}, {world(), disk.New(3), api.ErrArg}, {world(), disk.New(4), api.OK}} {
		if d, err := depot.Open(c.w, c.d); err != c.want || (d == nil) != (err != api.OK) {
			t.Error(i, err)
		}
	}
	var j sample.Journal
	r := j.Sign(0, sample.ReportOf("make 0 c coach"))
	stranger := sample.Signed(api.Record{Kind: api.RecReport, Author: 2, Number: 1, Clock: 1, Report: sample.Report("scrap 2 v2")})
	text := sample.Texts(r)[0]
	for i, c := range []struct {
		key, value string
		want       api.Errno
	}{{record.Id(r), text, api.OK}, {"0123456789abcdef", text, api.ErrDamaged}, {record.Id(r), text + "x", api.ErrDamaged}, {record.Id(r), "", api.ErrDamaged}, {record.Id(stranger), sample.Texts(stranger)[0], api.ErrDamaged}} {
		d := disk.New(100)
		s, _ := store.Open(d)
		if err := s.Commit(map[string]string{c.key: c.value}, nil); err != api.OK {
			t.Fatal(err)
		}
		if p, err := depot.Open(world(), d); err != c.want || (p == nil) != (err != api.OK) || err == api.OK && !slices.Equal(p.Texts(), []string{text}) {
			t.Error(i, err)
		}
	}
	w := world()
	d, _ := depot.Open(w, disk.New(100))
	w.Keys[0] = "x"
	if err := d.Receive(text); err != api.OK {
		t.Error("the argument is kept", err)
	}
}

func TestNil(t *testing.T) { // P52.1
	var d *depot.Depot
	v, err := d.Verdict("c", 5)
	g, err2 := d.Grounded(5)
	due, err3 := d.Due()
	if d.Receive("") != api.ErrArg || d.Texts() != nil || !reflect.DeepEqual(v, api.Verdict{}) || err != api.ErrArg || g != nil || err2 != api.ErrArg || due != nil || err3 != api.ErrArg || d.Move("c", 5) != api.ErrArg || d.Compact() != api.ErrArg {
		t.Error("nil")
	}
}

func TestReceive(t *testing.T) { // P52.3, and P52.1: AZ2
	p := disk.New(60)
	d := open(t, p)
	var j sample.Journal
	r := j.Sign(0, sample.ReportOf("make 0 c coach"))
	receive(t, d, r)
	raw := p.Raw()
	forged, bare := r, r
	forged.Clock++
	bare.Seal = api.Seal{}
	stranger := sample.Signed(api.Record{Kind: api.RecReport, Author: 2, Number: 1, Clock: 1, Report: sample.Report("scrap 2 v2")})
	big := j.Sign(1, sample.ReportOf("scrap 3 c | scrap 4 c | scrap 5 c | scrap 6 c"))
	var more []api.Record
	for range 3 {
		more = append(more, j.Sign(1, sample.ReportOf("scrap 3 c | scrap 4 c | scrap 5 c")))
	}
	for i, c := range []struct {
		text string
		want api.Errno
	}{{"", api.ErrSyntax}, {strings.Repeat("x", 20001), api.ErrLimit}, {sample.Texts(forged)[0], api.ErrKey}, {sample.Texts(stranger)[0], api.ErrArg}, {sample.Texts(bare)[0], api.ErrKey}, {sample.Texts(r)[0], api.OK}, {sample.Texts(r)[0] + " ", api.ErrSyntax}} {
		if err := d.Receive(c.text); err != c.want || p.Raw() != raw || len(d.Texts()) != 1 {
			t.Error(i, err)
		}
	}
	receive(t, d, big)
	raw = p.Raw()
	if err := d.Receive(sample.Texts(more[0])[0]); err != api.ErrFull || p.Raw() != raw || len(d.Texts()) != 2 {
		t.Error(err)
	}
	if err := d.Compact(); err != api.OK || len(d.Texts()) != 2 { // a full store does not break the depot
		t.Error(err)
	}
}

func TestBroken(t *testing.T) { // P52.1: AZ2 and AZ6
	for after := range 6 {
		for _, compact := range []bool{false, true} {
			p := disk.New(200)
			d := open(t, p)
			var j sample.Journal
			receive(t, d, j.Sign(0, sample.ReportOf("make 0 c coach")))
			next := sample.Texts(j.Sign(0, sample.ReportOf("scrap 3 c")))[0]
			p.Arm(after, 0, 0)
			err := d.Receive(next)
			if compact {
				p.Start()
				d = open(t, p)
				p.Arm(after, 0, 0)
				err = d.Compact()
			}
			if err != api.ErrPower {
				t.Fatal(after, compact, err)
			}
			p.Start()
			v, err := d.Verdict("c", 5)
			if d.Receive("") != api.ErrState || d.Compact() != api.ErrState || len(d.Texts()) != 1 && !compact || v.Kind != api.VerdictReleased && !compact || err != api.OK {
				t.Error(after, compact, v)
			}
		}
	}
}

// random returns signed records, two of which may be a fork, and others that are forged.
func random(r *rand.Rand) []api.Record {
	var j sample.Journal
	var l []api.Record
	for _, rep := range sample.RandomReports(r.Intn, 4, 2) {
		l = append(l, j.Sign(r.Intn(2), api.Record{Kind: api.RecReport, Report: rep}))
	}
	l = append(l, j.Sign(0, api.Record{Kind: api.RecHold, Name: []string{"v1", "v2"}[r.Intn(2)], Members: []int{1}}))
	if r.Intn(2) == 0 {
		l = append(l, j.Sign(1, api.Record{Kind: api.RecBack, Target: record.Id(l[len(l)-1])}))
	}
	l = append(l, j.Sign(0, api.Record{Kind: api.RecCost, Cost: api.Cost{Part: "a1", Owner: "Rail", Day: 9, Amount: 500}}))
	if r.Intn(2) == 0 { // another record with the number of an old one
		old := l[r.Intn(len(l))]
		for i := range 3 {
			fork := api.Record{Kind: api.RecClear, Target: "000000000000000" + string(rune('0'+i)), Author: old.Author, Number: old.Number, Prev: old.Prev, Clock: old.Clock}
			l = append(l, sample.Signed(fork))
		}
	}
	return l
}

// same compares the answers of a depot with those of the specification.
func same(t *testing.T, d *depot.Depot, l []api.Record) {
	t.Helper()
	w := world()
	grounded, _ := d.Grounded(9)
	due, err := d.Due()
	wantDue, wantErr := spec.Due(l, w)
	if !slices.Equal(grounded, spec.Grounded(l, w, 9)) || !slices.Equal(due, wantDue) || err != wantErr {
		t.Fatal(grounded, due, err)
	}
	for _, v := range []string{"v1", "v2", "x"} {
		got, err := d.Verdict(v, 9)
		want := spec.Verdict(l, w, v, 9)
		if !reflect.DeepEqual(got, want) || err != api.OK {
			t.Fatal(v, got, want)
		}
		move := api.OK
		if got.Kind != api.VerdictReleased {
			move = api.ErrState
		}
		if slices.ContainsFunc(spec.Book(l, w, 9).Holds, func(h api.Hold) bool { return h.Vehicle == v && len(h.Back) < len(h.Members) }) {
			move = api.ErrHold
		}
		if got := d.Move(v, 9); got != move {
			t.Fatal(v, got, move)
		}
	}
}

func TestOrder(t *testing.T) { // P52.2, P52.5 and P52.6
	r := rand.New(rand.NewSource(1))
	for range 8 {
		l := random(r)
		for range 2 {
			d := open(t, disk.New(2000))
			other := append(slices.Clone(l), l...)
			r.Shuffle(len(other), func(i, j int) { other[i], other[j] = other[j], other[i] })
			receive(t, d, other...)
			if !slices.Equal(d.Texts(), byId(l)) {
				t.Fatal("texts")
			}
			same(t, d, l)
		}
	}
}

func TestCompaction(t *testing.T) { // P52.7
	r := rand.New(rand.NewSource(2))
	dropped := 0
	for range 8 {
		l := random(r)
		p := disk.New(2000)
		d := open(t, p)
		receive(t, d, l...)
		if err := d.Compact(); err != api.OK {
			t.Fatal(err)
		}
		kept := byId(keep.Keep(l))
		dropped += len(l) - len(kept)
		same(t, d, l)
		texts, raw := d.Texts(), p.Raw()
		if err := d.Compact(); err != api.OK || !slices.Equal(texts, kept) || !slices.Equal(d.Texts(), kept) || p.Raw() != raw {
			t.Fatal("a second time", err)
		}
		again := open(t, p)
		same(t, again, l)
		if !slices.Equal(again.Texts(), kept) {
			t.Fatal("they are still there")
		}
	}
	if dropped < 3 {
		t.Error("too few cases:", dropped)
	}
}

// If the records cannot be removed from the store, they stay.
func TestFailedCompaction(t *testing.T) { // P52.1: AZ6
	r := rand.New(rand.NewSource(4))
	for {
		l := random(r)
		if len(keep.Keep(l)) == len(l) {
			continue
		}
		p := disk.New(2000)
		d := open(t, p)
		receive(t, d, l...)
		before := d.Texts()
		p.Arm(0, 0, 0)
		if err := d.Compact(); err != api.ErrPower || !slices.Equal(d.Texts(), before) || d.Compact() != api.ErrState {
			t.Error(err)
		}
		break
	}
}

func TestCrashes(t *testing.T) { // P52.4
	r := rand.New(rand.NewSource(3))
	l := random(r)
	last := sample.Texts(l[len(l)-1])[0]
	for _, compact := range []bool{false, true} {
		for after := 0; ; after += 1 + r.Intn(9) {
			p := disk.New(2000)
			d := open(t, p)
			receive(t, d, l[:len(l)-1]...)
			before, then := d.Texts(), byId(l)
			p.Arm(after, r.Intn(20), r.Intn(65))
			var err api.Errno
			if compact {
				then = byId(keep.Keep(l[:len(l)-1]))
				err = d.Compact()
			} else {
				err = d.Receive(last)
			}
			p.Start()
			got := open(t, p).Texts()
			if !slices.Equal(got, before) && !slices.Equal(got, then) || err == api.OK && !slices.Equal(got, then) {
				t.Fatal(compact, after, len(got), err)
			}
			if err == api.OK {
				break
			}
			if after > 20 {
				after += 400
			}
		}
	}
}

func TestDamage(t *testing.T) { // P52.8
	p := disk.New(80)
	d := open(t, p)
	var j sample.Journal
	receive(t, d, j.Sign(0, sample.ReportOf("make 0 c coach")), j.Sign(1, sample.ReportOf("scrap 3 c")))
	want, raw := d.Texts(), p.Raw()
	refused := 0
	for i := 0; i < len(raw); i += 7 {
		p.Rot(i/64, i%64, 1<<(i%8))
		again, err := depot.Open(world(), p)
		if err == api.ErrDamaged {
			refused++
		} else if err != api.OK || !slices.Equal(again.Texts(), want) {
			t.Fatal(i, err)
		}
		if err != api.OK {
			p.Rot(i/64, i%64, 1<<(i%8))
		}
	}
	if refused < 50 {
		t.Error("refused:", refused)
	}
}
