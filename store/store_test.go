package store_test

import (
	"fmt"
	"maps"
	"math/rand"
	"slices"
	"strconv"
	"strings"
	"testing"

	"bogie/api"
	"bogie/digest"
	"bogie/disk"
	"bogie/joined"
	"bogie/store"
)

type contents = map[string]string

// The power may also fail while a head is restored.
func TestRestoring(t *testing.T) { // P47.1: AU1
	for place := range 2 {
		for after := range 5 {
			d := disk.New(20)
			do(t, open(t, d).Commit(contents{"a": "1"}, nil))
			d.Rot(place, 3, 1)
			d.Arm(after, 0, 0)
			s, err := store.Open(d)
			if (err == api.ErrPower) != (after < 4) || (s == nil) != (err != api.OK) {
				t.Error(place, after, err)
			}
			d.Start()
			if got := all(t, open(t, d)); !maps.Equal(got, contents{"a": "1"}) {
				t.Error(place, after, got)
			}
		}
	}
}

func open(t *testing.T, d *disk.Disk) *store.Store {
	t.Helper()
	s, err := store.Open(d)
	if s == nil || err != api.OK {
		t.Fatal(err)
	}
	return s
}

// all returns the contents of a store.
func all(t *testing.T, s *store.Store) contents {
	t.Helper()
	m := contents{}
	for _, key := range s.Keys() {
		value, ok := s.Get(key)
		if !ok {
			t.Fatal(key)
		}
		m[key] = value
	}
	return m
}

func do(t *testing.T, err api.Errno) {
	t.Helper()
	if err != api.OK {
		t.Fatal(err)
	}
}

func TestOpen(t *testing.T) { // P47.1: AU1
	off := disk.New(3)
	off.Fail(0, 0)
	for i, c := range []struct {
		d    *disk.Disk
		want api.Errno
	}{{nil, api.ErrArg}, {off, api.ErrPower}, {disk.New(3), api.ErrArg}, {disk.New(4), api.OK}, {disk.New(8000), api.OK}} {
		if s, err := store.Open(c.d); err != c.want || (s == nil) != (err != api.OK) {
			t.Error(i, err)
		}
	}
	d := disk.New(20)
	if len(open(t, d).Keys()) != 0 || d.Raw() != strings.Repeat("\x00", 20*64) {
		t.Error("a new disk")
	}
	d.Rot(1, 5, 1)
	if len(open(t, d).Keys()) != 0 || d.Raw() != strings.Repeat("\x00", 20*64) {
		t.Error("zero bytes are written to sector 1")
	}
	d.Rot(0, 5, 1)
	if s, err := store.Open(d); s != nil || err != api.ErrDamaged {
		t.Error(err)
	}
}

// Opening writes no more than is needed, so that a failure of the power later does not matter.
func TestFewWrites(t *testing.T) { // P47.1: AU1
	for damaged, calls := range []int{0, 2} { // a new disk, and one whose sector 1 has other bytes
		for after := range 4 {
			d := disk.New(20)
			if damaged == 1 {
				d.Rot(1, 5, 1)
			}
			d.Arm(after, 0, 0)
			if _, err := store.Open(d); (err == api.OK) != (after >= calls) {
				t.Error(damaged, after, err)
			}
		}
	}
}

// A store in area 1 is compacted to area 0, without a moment at which it is lost.
func TestAreaOne(t *testing.T) { // P47.4, and P47.1: AU4
	want := contents{"b": "2", "c": strings.Repeat("x", 90)}
	raw := layout(20, 1, commit("1", "a", "1", "0"), commit("2", "b", "2", "c", want["c"], "1", "a"))
	for step := 0; ; step++ {
		d := burn(t, raw)
		s := open(t, d)
		d.Arm(step, step%3, 17*step%65)
		err := s.Compact()
		d.Start()
		if got := all(t, open(t, d)); !maps.Equal(got, want) {
			t.Fatal(step, got)
		}
		if err == api.OK {
			if d.Raw() != layout(20, 0, commit("2", "b", "2", "c", want["c"], "0")) {
				t.Error("layout")
			}
			// The pieces, both heads and all other sectors were written once, with a Sync behind each group.
			if want := 3 + 1 + 4 + 9 + 1 + 6 + 1; step != want {
				t.Error("calls:", step, want)
			}
			break
		}
	}
}

func TestNil(t *testing.T) { // P47.1
	var s *store.Store
	value, ok := s.Get("a")
	if value != "" || ok || s.Keys() != nil || s.Commit(nil, nil) != api.ErrArg || s.Compact() != api.ErrArg {
		t.Error("nil")
	}
}

// sealed returns a sealed sector as the document says.
func sealed(place int, content string) string {
	content += strings.Repeat("\x00", 48-len(content))
	return digest.Sum(fmt.Sprintf("%08d", place)+content) + content
}

// layout returns the raw bytes of a disk of n sectors with a log in an area, and other sectors with zero bytes.
func layout(n, area int, logs ...string) string {
	sectors := slices.Repeat([]string{strings.Repeat("\x00", 64)}, n)
	k := (n - 2) / 2
	count := 0
	for _, text := range logs {
		for ; text != ""; count++ {
			piece := text[:min(46, len(text))]
			text = text[len(piece):]
			sectors[2+area*k+count] = sealed(2+area*k+count, fmt.Sprintf("%02d", len(piece))+piece)
		}
	}
	if len(logs) > 0 {
		for place := range 2 {
			sectors[place] = sealed(place, fmt.Sprintf("%d%07d", area, count))
		}
	}
	return strings.Join(sectors, "")
}

// commit returns the text of a commit with some elements.
func commit(l ...string) string { return joined.Text(joined.Text(l...)) }

// burn writes raw bytes to a disk.
func burn(t *testing.T, raw string) *disk.Disk {
	t.Helper()
	d := disk.New(len(raw) / 64)
	for i := range len(raw) / 64 {
		do(t, d.Write(i, raw[64*i:64*i+64]))
	}
	do(t, d.Sync())
	return d
}

func TestLayout(t *testing.T) { // P47.1: AU1 and AU3
	d := disk.New(21)
	s := open(t, d)
	long := strings.Repeat("x", 50)
	do(t, s.Commit(contents{"b": "2", "a": long}, []string{"z", "y", "z"}))
	first := commit("2", "a", long, "b", "2", "2", "y", "z")
	if d.Raw() != layout(21, 0, first) {
		t.Error("the first commit")
	}
	do(t, s.Commit(nil, []string{"a"}))
	if d.Raw() != layout(21, 0, first, commit("0", "1", "a")) {
		t.Error("the second commit")
	}
	do(t, s.Commit(nil, nil))
	if d.Raw() != layout(21, 0, first, commit("0", "1", "a")) {
		t.Error("without keys something is written")
	}
	do(t, s.Compact())
	if d.Raw() != layout(21, 0, commit("1", "b", "2", "0")) {
		t.Error("compacted")
	}
	do(t, s.Commit(nil, []string{"b"}))
	do(t, s.Compact())
	if d.Raw() != layout(21, 0, "") {
		t.Error("nothing is left")
	}
}

func TestLogs(t *testing.T) { // P47.1: AU1
	for i, c := range []struct {
		raw  string
		want contents
	}{
		{layout(20, 0, commit("1", "a", "1", "0")), contents{"a": "1"}}, {layout(20, 1, commit("1", "a", "1", "0"), commit("1", "b", "", "1", "a")), contents{"b": ""}}, {layout(20, 1, ""), contents{}}, {layout(20, 0, commit("1", "a", "1", "0")+commit("0", "1", "a")), contents{}},
		{layout(20, 0, commit("2", "a", "1", "b", "2", "0")), contents{"a": "1", "b": "2"}}, {layout(20, 0, commit("2", "b", "1", "a", "2", "0")), nil}, {layout(20, 0, commit("2", "a", "1", "a", "2", "0")), nil}, {layout(20, 0, commit("0", "2", "b", "a")), nil}, {layout(20, 0, commit("0", "2", "a", "a")), nil}, {layout(20, 0, commit("1", "a", "1", "1", "a")), nil}, {layout(20, 0, commit("0", "0")), nil}, {layout(20, 0, commit("1", "", "1", "0")), nil}, {layout(20, 0, commit("0", "1", "")), nil}, {layout(20, 0, commit("01", "a", "1", "0")), nil}, {layout(20, 0, commit("1", "a", "1")), nil}, {layout(20, 0, commit("1", "a", "1", "0", "b")), nil}, {layout(20, 0, commit("9", "a", "1", "0")), nil}, {layout(20, 0, commit("x")), nil}, {layout(20, 0, commit()), nil}, {layout(20, 0, "x"), nil}, {layout(20, 0, commit("1", "a", "1", "0")[1:]), nil}, {layout(20, 0, joined.Text("1", "a", "1", "0")), nil}, {layout(20, 0, commit("1", strings.Repeat("k", 201), "1", "0")), nil}, {layout(20, 0, commit("1", strings.Repeat("k", 200), "1", "0")), contents{strings.Repeat("k", 200): "1"}},
	} {
		s, err := store.Open(burn(t, c.raw))
		if c.want == nil && (s != nil || err != api.ErrDamaged) || c.want != nil && (err != api.OK || !maps.Equal(all(t, s), c.want)) {
			t.Error(i, err)
		}
	}
	base := layout(20, 0, commit("1", "a", "1", "0"))
	zero := strings.Repeat("\x00", 64)
	change := func(place int, text string) string { return base[:64*place] + text + base[64*place+64:] }
	for i, c := range []struct {
		raw string
		ok  bool
	}{
		{change(1, zero), true}, {change(0, zero), true}, {change(0, sealed(0, "00000009")), true}, {change(1, sealed(1, "00000002")), false}, {change(1, sealed(1, "20000001")), true}, {change(1, sealed(1, "00000010")), true}, {change(1, sealed(1, "0 000001")), true}, {change(1, sealed(1, "00000001x")), true}, {change(1, sealed(0, "00000001")), true}, {change(2, zero), false}, {change(2, sealed(2, "00")), false}, {change(2, sealed(2, "47"+strings.Repeat("x", 46))), false}, {change(2, sealed(3, "131:1")), false}, {change(2, base[128:192-1]+"x"), false},
	} {
		d := burn(t, c.raw)
		s, err := store.Open(d)
		if c.ok != (err == api.OK) || !c.ok && (s != nil || err != api.ErrDamaged) || c.ok && (!maps.Equal(all(t, s), contents{"a": "1"}) || d.Raw() != base) {
			t.Error(i, err)
		}
	}
}

func TestCommitErrors(t *testing.T) { // P47.1: AU3, and P47.7
	d := disk.New(20)
	s := open(t, d)
	do(t, s.Commit(contents{"a": "1"}, nil))
	before := d.Raw()
	long, key := strings.Repeat("v", 20001), strings.Repeat("k", 201)
	for i, c := range []struct {
		put  contents
		drop []string
		want api.Errno
	}{
		{contents{"": "x"}, nil, api.ErrArg}, {contents{key: "x"}, nil, api.ErrArg}, {nil, []string{""}, api.ErrArg}, {nil, []string{"a", key}, api.ErrArg}, {contents{"a": "x"}, []string{"b", "a"}, api.ErrArg}, {contents{"b": long}, nil, api.ErrLimit}, {contents{"b": long, "": "x"}, nil, api.ErrArg}, {contents{"b": long}, []string{"b"}, api.ErrArg}, {contents{"b": strings.Repeat("v", 400)}, nil, api.ErrFull}, {contents{"b": long[1:]}, nil, api.ErrFull},
	} {
		if err := s.Commit(c.put, c.drop); err != c.want || d.Raw() != before || !maps.Equal(all(t, s), contents{"a": "1"}) {
			t.Error(i, err)
		}
	}
	// 8 sectors of 46 bytes are left; a commit has 17 bytes besides a key of one and a value of 351 (with 3 digits).
	if err := s.Commit(contents{"b": strings.Repeat("v", 351)}, nil); err != api.OK {
		t.Error(err)
	}
	if err := s.Commit(contents{"c": ""}, nil); err != api.ErrFull {
		t.Error(err)
	}
	do(t, open(t, d).Compact())
	s = open(t, d)
	if err := s.Commit(contents{"c": "3"}, nil); err != api.ErrFull { // 9 sectors are still needed
		t.Error(err)
	}
	big := disk.New(8000)
	b := open(t, big)
	do(t, b.Commit(contents{"v": long[1:], strings.Repeat("k", 200): "\x00\xff"}, nil))
	if got := all(t, open(t, big)); got["v"] != long[1:] || len(got) != 2 {
		t.Error(len(got))
	}
}

func TestBroken(t *testing.T) { // P47.1: AU3 and AU4
	d := disk.New(20)
	s := open(t, d)
	do(t, s.Commit(contents{"a": "1"}, nil))
	d.Arm(1, 0, 0)
	if err := s.Commit(contents{"a": "2"}, nil); err != api.ErrPower {
		t.Error(err)
	}
	d.Start()
	if s.Commit(nil, []string{"a"}) != api.ErrState || s.Compact() != api.ErrState || s.Commit(contents{"": ""}, nil) != api.ErrState || !maps.Equal(all(t, s), contents{"a": "1"}) {
		t.Error("not broken")
	}
	if got := all(t, open(t, d)); !maps.Equal(got, contents{"a": "1"}) {
		t.Error(got)
	}
	full := open(t, disk.New(8))
	do(t, full.Commit(contents{"a": strings.Repeat("x", 100)}, nil))
	do(t, full.Compact())
}

// change returns a random commit.
func change(r *rand.Rand) (contents, []string) {
	put := contents{}
	var drop []string
	for range 1 + r.Intn(3) {
		key := string(rune('a' + r.Intn(5)))
		if _, both := put[key]; r.Intn(3) == 0 && !both {
			drop = append(drop, key)
		} else if !slices.Contains(drop, key) {
			put[key] = strings.Repeat(string(rune('A'+r.Intn(26))), r.Intn(60))
		}
	}
	return put, drop
}

func after(before, put contents, drop []string) contents {
	m := maps.Clone(before)
	maps.Copy(m, put)
	for _, key := range drop {
		delete(m, key)
	}
	return m
}

func TestContents(t *testing.T) { // P47.2, P47.4, P47.5 and P47.8
	r := rand.New(rand.NewSource(1))
	raws := map[string]string{} // by contents
	for range 100 {
		d := disk.New(40)
		s := open(t, d)
		want := contents{}
		for range 8 {
			put, drop := change(r)
			err := s.Commit(put, drop)
			if err == api.OK {
				want = after(want, put, drop)
			} else if err != api.ErrFull {
				t.Fatal(err)
			}
			if r.Intn(4) == 0 {
				do(t, s.Compact())
				key := fmt.Sprint(want)
				if old, ok := raws[key]; ok && old != d.Raw() {
					t.Fatal("traces:", want)
				}
				raws[key] = d.Raw()
			}
			if !maps.Equal(all(t, s), want) || !slices.IsSorted(s.Keys()) {
				t.Fatal(want, all(t, s))
			}
			before := d.Raw()
			if again := open(t, d); !maps.Equal(all(t, again), want) || d.Raw() != before {
				t.Fatal("opened again:", want)
			}
		}
	}
}

// interrupted executes an operation on a copy of a disk with a failure of the power, and returns the disk; false if there was no failure.
func interrupted(t *testing.T, raw string, after, writes, bytes int, operation func(s *store.Store) api.Errno) (*disk.Disk, bool) {
	t.Helper()
	d := burn(t, raw)
	s := open(t, d)
	d.Arm(after, writes, bytes)
	err := operation(s)
	d.Start()
	return d, err == api.ErrPower
}

func TestPower(t *testing.T) { // P47.3, P47.4 and P47.8
	r := rand.New(rand.NewSource(2))
	for round := range 6 {
		d := disk.New(30)
		s := open(t, d)
		before := contents{}
		for range 1 + r.Intn(3) {
			put, drop := change(r)
			do(t, s.Commit(put, drop))
			before = after(before, put, drop)
		}
		if round%2 == 1 {
			do(t, s.Compact())
		}
		put, drop := change(r)
		operation := func(s *store.Store) api.Errno { return s.Commit(put, drop) }
		then := after(before, put, drop)
		if round >= 3 {
			operation, then = func(s *store.Store) api.Errno { return s.Compact() }, before
		}
		for step := 0; ; step++ {
			done := true
			for range 4 {
				writes, bytes := r.Intn(12)*r.Intn(2), r.Intn(65)
				crashed, failed := interrupted(t, d.Raw(), step, writes, bytes, operation)
				done = done && !failed
				// While it is opened, the power may fail, too.
				crashed.Arm(r.Intn(6), r.Intn(2), r.Intn(65))
				_, _ = store.Open(crashed)
				crashed.Start()
				got := all(t, open(t, crashed))
				if !maps.Equal(got, before) && !maps.Equal(got, then) || !failed && !maps.Equal(got, then) {
					t.Fatal(round, step, writes, bytes, got, before, then)
				}
				// What is compacted afterwards has no traces of what was interrupted.
				clean := disk.New(30)
				do(t, open(t, clean).Commit(got, nil))
				do(t, open(t, clean).Compact())
				do(t, open(t, crashed).Compact())
				if crashed.Raw() != clean.Raw() {
					t.Fatal("traces:", round, step)
				}
				if again := all(t, open(t, crashed)); !maps.Equal(got, again) {
					t.Fatal("opened again:", got, again)
				}
			}
			if done {
				break
			}
		}
	}
}

func TestDamage(t *testing.T) { // P47.6
	d := disk.New(12)
	s := open(t, d)
	do(t, s.Commit(contents{"a": "1", "b": strings.Repeat("x", 40)}, nil))
	do(t, s.Commit(contents{"c": "3"}, []string{"a"}))
	want := all(t, s)
	raw := d.Raw()
	refused := 0
	for i := range len(raw) {
		damaged := burn(t, raw)
		damaged.Rot(i/64, i%64, 1<<(i%8))
		again, err := store.Open(damaged)
		if err == api.ErrDamaged {
			refused++
		} else if err != api.OK || !maps.Equal(all(t, again), want) {
			t.Fatal(i, err)
		}
	}
	if refused < 3*64 {
		t.Error("noticed:", strconv.Itoa(refused))
	}
}
