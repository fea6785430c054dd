package disk_test

import (
	"math"
	"math/rand"
	"strings"
	"testing"

	"bogie/api"
	"bogie/disk"
)

func full(s string) string { return strings.Repeat(s, 64) }

func read(t *testing.T, d *disk.Disk, sector int) string {
	t.Helper()
	s, err := d.Read(sector)
	if err != api.OK {
		t.Fatal(sector, err)
	}
	return s
}

// do calls an operation that must have no error.
func do(t *testing.T, err api.Errno) {
	t.Helper()
	if err != api.OK {
		t.Fatal(err)
	}
}

func TestNew(t *testing.T) { // P46.1: AT1
	for _, n := range []int{0, -1, 8001, math.MaxInt, math.MinInt} {
		if disk.New(n) != nil {
			t.Error(n)
		}
	}
	for _, n := range []int{1, 8000} {
		if d := disk.New(n); d == nil || d.Raw() != strings.Repeat("\x00", n*64) || read(t, d, n-1) != full("\x00") {
			t.Error(n)
		}
	}
}

func TestNil(t *testing.T) { // P46.1
	var d *disk.Disk
	s, err := d.Read(0)
	if s != "" || err != api.ErrArg || d.Write(0, full("a")) != api.ErrArg || d.Sync() != api.ErrArg || d.Raw() != "" {
		t.Error("nil")
	}
	d.Fail(0, 0)
	d.Start()
	d.Arm(0, 0, 0)
	d.Rot(0, 0, 1)
}

func TestErrors(t *testing.T) { // P46.1: AT2 and AT3, and P46.5
	d := disk.New(2)
	do(t, d.Write(0, full("a")))
	for i, err := range []api.Errno{d.Write(-1, full("x")), d.Write(2, full("x")), d.Write(0, ""), d.Write(0, full("x")+"x"), d.Write(0, full("x")[1:]), d.Write(math.MaxInt, full("x")), d.Write(math.MinInt, full("x"))} {
		if err != api.ErrArg {
			t.Error(i, err)
		}
	}
	for _, sector := range []int{-1, 2, math.MaxInt, math.MinInt} {
		if s, err := d.Read(sector); s != "" || err != api.ErrArg {
			t.Error(sector, err)
		}
	}
	if read(t, d, 0) != full("a") || read(t, d, 1) != full("\x00") {
		t.Error("an error changed something")
	}
	d.Fail(0, 0)
	s, err := d.Read(9)
	if s != "" || err != api.ErrPower || d.Write(9, "") != api.ErrPower || d.Sync() != api.ErrPower {
		t.Error("the power is off")
	}
	d.Start()
	do(t, d.Sync())
}

func TestExamples(t *testing.T) { // P46.1
	d := disk.New(2)
	do(t, d.Write(0, full("a")))
	do(t, d.Sync())
	do(t, d.Write(0, full("b")))
	d.Fail(0, 2)
	d.Start()
	if got := read(t, d, 0); got != "bb"+full("a")[2:] {
		t.Error(got)
	}
	d = disk.New(2)
	do(t, d.Write(0, full("a")))
	do(t, d.Write(1, full("b")))
	d.Fail(1, 0)
	d.Start()
	if read(t, d, 0) != full("a") || read(t, d, 1) != full("\x00") {
		t.Error(d.Raw())
	}
	d = disk.New(2)
	d.Arm(1, 1, 2)
	do(t, d.Write(0, full("a")))
	if err := d.Write(0, full("b")); err != api.ErrPower {
		t.Error(err)
	}
	d.Start()
	if got := read(t, d, 0); got != "bb"+full("a")[2:] {
		t.Error(got)
	}
	d = disk.New(2)
	do(t, d.Write(0, full("a")))
	do(t, d.Sync())
	do(t, d.Write(0, full("b")))
	if !strings.HasPrefix(d.Raw(), full("a")) {
		t.Error(d.Raw())
	}
	do(t, d.Sync())
	d.Rot(0, 1, 3)
	if got := read(t, d, 0); got != "ba"+full("b")[2:] {
		t.Error(got)
	}
}

func TestFail(t *testing.T) { // P46.1: AT4
	for i, c := range []struct {
		writes, bytes int
		want          string // the first bytes of both sectors
	}{{0, 0, "aa"}, {-5, -5, "aa"}, {0, 64, "ba"}, {0, 99, "ba"}, {1, 0, "ba"}, {1, 1, "bc"}, {2, 0, "bc"}, {2, 64, "dc"}, {3, 7, "dc"}, {99, 0, "dc"}, {math.MaxInt, math.MinInt, "dc"}, {math.MinInt, math.MaxInt, "ba"}} {
		d := disk.New(2)
		for sector := range 2 {
			do(t, d.Write(sector, full("a")))
		}
		do(t, d.Sync())
		do(t, d.Write(0, full("b")))
		do(t, d.Write(1, full("c")))
		do(t, d.Write(0, full("d")))
		d.Fail(c.writes, c.bytes)
		before := d.Raw()
		d.Fail(9, 9)
		d.Arm(0, 0, 0)
		if got := before[:1] + before[64:65]; got != c.want || d.Raw() != before {
			t.Error(i, got)
		}
		d.Start()
		do(t, d.Write(0, full("e"))) // not armed
		do(t, d.Sync())
	}
	d := disk.New(1)
	do(t, d.Write(0, full("a")))
	d.Arm(0, 0, 0)
	d.Start() // it is on: what is pending stays, and it is not armed any more
	do(t, d.Sync())
	if d.Raw() != full("a") {
		t.Error(d.Raw())
	}
	d.Arm(0, 0, 0)
	d.Fail(0, 0)
	d.Start()
	do(t, d.Sync())
}

func TestArm(t *testing.T) { // P46.1: AT5
	for i, c := range []struct {
		after, writes, bytes int
		calls                []api.Errno // of Write 0 b, a wrong Write, Write 1 c, Sync, Read
		want                 string
	}{
		{0, 0, 0, []api.Errno{api.ErrPower, api.ErrPower, api.ErrPower, api.ErrPower, api.ErrPower}, "aa"}, {0, 1, 0, []api.Errno{api.ErrPower, api.ErrPower, api.ErrPower, api.ErrPower, api.ErrPower}, "ba"}, {1, 1, 0, []api.Errno{api.OK, api.ErrArg, api.ErrPower, api.ErrPower, api.ErrPower}, "ba"}, {1, 2, 0, []api.Errno{api.OK, api.ErrArg, api.ErrPower, api.ErrPower, api.ErrPower}, "bc"}, {2, 0, 1, []api.Errno{api.OK, api.ErrArg, api.OK, api.ErrPower, api.ErrPower}, "ba"}, {2, 9, 0, []api.Errno{api.OK, api.ErrArg, api.OK, api.ErrPower, api.ErrPower}, "bc"}, {3, 0, 0, []api.Errno{api.OK, api.ErrArg, api.OK, api.OK, api.OK}, "bc"}, {-1, 0, 0, []api.Errno{api.OK, api.ErrArg, api.OK, api.OK, api.OK}, "bc"}, {math.MinInt, 0, 0, []api.Errno{api.OK, api.ErrArg, api.OK, api.OK, api.OK}, "bc"},
	} {
		d := disk.New(2)
		for sector := range 2 {
			do(t, d.Write(sector, full("a")))
		}
		do(t, d.Sync())
		d.Arm(1, 5, 5) // does not count any more
		d.Arm(c.after, c.writes, c.bytes)
		_, _ = d.Read(0)
		calls := []api.Errno{d.Write(0, full("b")), d.Write(2, full("x")), d.Write(1, full("c")), d.Sync()}
		_, err := d.Read(0)
		for k, got := range append(calls, err) {
			if got != c.calls[k] {
				t.Error(i, k, got)
			}
		}
		if raw := d.Raw(); raw[:1]+raw[64:65] != c.want {
			t.Error(i, raw[:1]+raw[64:65])
		}
		d.Start()
		do(t, d.Sync())
		do(t, d.Write(0, full("z")))
	}
}

func TestRot(t *testing.T) { // P46.8, and P46.1: AT6
	d := disk.New(2)
	do(t, d.Write(1, full("a")))
	do(t, d.Sync())
	do(t, d.Write(1, full("b")))
	before := d.Raw()
	for _, c := range [][3]int{{-1, 0, 1}, {2, 0, 1}, {0, -1, 1}, {0, 64, 1}, {0, 0, 0}, {0, 0, 256}, {0, 0, -1}, {math.MaxInt, 0, 1}, {0, math.MaxInt, 1}} {
		d.Rot(c[0], c[1], c[2])
		if d.Raw() != before {
			t.Error(c)
		}
	}
	for _, c := range [][3]int{{0, 0, 1}, {1, 63, 255}, {1, 7, 128}} {
		d.Rot(c[0], c[1], c[2])
		got := d.Raw()
		for i := range got {
			mask := byte(0)
			if i == 64*c[0]+c[1] {
				mask = byte(c[2])
			}
			if got[i] != before[i]^mask {
				t.Fatal(c, i)
			}
		}
		if read(t, d, 1) != full("b") {
			t.Error("a pending write changed")
		}
		d.Rot(c[0], c[1], c[2])
		if d.Raw() != before {
			t.Error("not undone:", c)
		}
	}
	d.Fail(0, 0)
	d.Rot(1, 0, 3)
	if raw := d.Raw(); raw[64] != 'a'^3 {
		t.Error("it works when the disk is off")
	}
}

type pending struct {
	sector int
	text   string
}

// model is a disk in the words of the document.
type model struct {
	stable  []string
	pending []pending
}

func (m *model) settle(n int) {
	for _, p := range m.pending[:n] {
		m.stable[p.sector] = p.text
	}
}

func (m *model) fail(writes, bytes int) {
	m.settle(min(writes, len(m.pending)))
	if writes < len(m.pending) {
		p := m.pending[writes]
		m.stable[p.sector] = p.text[:bytes] + m.stable[p.sector][bytes:]
	}
	m.pending = nil
}

func (m *model) read(sector int) string {
	for i := len(m.pending) - 1; i >= 0; i-- {
		if m.pending[i].sector == sector {
			return m.pending[i].text
		}
	}
	return m.stable[sector]
}

func TestModel(t *testing.T) { // P46.2 to P46.7, P46.9 and P3
	r := rand.New(rand.NewSource(1))
	for range 500 {
		n := 1 + r.Intn(4)
		d := disk.New(n)
		m := &model{stable: make([]string, n)}
		for i := range m.stable {
			m.stable[i] = full("\x00")
		}
		left, writes, bytes := -1, 0, 0 // when an armed disk fails
		for range 40 {
			failed := false
			step := func() bool {
				failed = left == 0
				if failed {
					m.fail(writes, bytes)
				}
				left--
				return !failed
			}
			var err api.Errno
			switch r.Intn(8) {
			case 0, 1, 2, 3:
				p := pending{r.Intn(n), full(string(rune('a' + r.Intn(26))))}
				m.pending = append(m.pending, p)
				step()
				err = d.Write(p.sector, p.text)
			case 4:
				if step() {
					m.settle(len(m.pending))
					m.pending = nil
				}
				err = d.Sync()
			case 5:
				writes, bytes = r.Intn(4), r.Intn(65)
				m.fail(writes, bytes)
				d.Fail(writes, bytes)
				failed, err = true, api.ErrPower
			case 6:
				left, writes, bytes = r.Intn(5), r.Intn(4), r.Intn(65)
				d.Arm(left, writes, bytes)
			default:
				sector, at := r.Intn(n), r.Intn(64)
				d.Rot(sector, at, 5)
				s := []byte(m.stable[sector])
				s[at] ^= 5
				m.stable[sector] = string(s)
			}
			if (err == api.ErrPower) != failed || err != api.OK && err != api.ErrPower {
				t.Fatal(err, failed)
			}
			if d.Raw() != strings.Join(m.stable, "") {
				t.Fatal("stable contents")
			}
			if failed {
				d.Start()
				left = -1
			}
			for sector := range n {
				if read(t, d, sector) != m.read(sector) {
					t.Fatal("reading", sector)
				}
			}
		}
	}
}

func TestAllWrites(t *testing.T) { // P46.6
	for _, sync := range []bool{true, false} {
		d := disk.New(3)
		do(t, d.Write(0, full("a")))
		do(t, d.Write(2, full("b")))
		if sync {
			do(t, d.Sync())
			d.Fail(0, 0)
		} else {
			d.Fail(2, 0)
		}
		if d.Raw() != full("a")+full("\x00")+full("b") {
			t.Error(sync)
		}
	}
}
