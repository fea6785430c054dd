package digest_test

import (
	"math/rand"
	"strings"
	"testing"

	"bogie/digest"
	"bogie/joined"
)

func TestSpecified(t *testing.T) { // P1.1
	for text, want := range map[string]string{
		"":                  plain(""),
		"a":                 plain("a"),
		"abcdefg":           plain("abcdefg"),
		"abcdefgh":          plain("abcdefgh"),
		"abcdefghi":         plain("abcdefghi"),
		"\x00\xff\n":        plain("\x00\xff\n"),
		"0123456789abcdef!": plain("0123456789abcdef!"),
	} {
		if got := digest.Sum(text); got != want {
			t.Errorf("%q: %s, not %s", text, got, want)
		}
	}
	for _, l := range [][]string{nil, {""}, {"a", "bc"}, {"a:", "", "0123456789"}} {
		if got, want := digest.List(l), plain(joined.Text(l...)); got != want {
			t.Error(l, got, want)
		}
	}
	if digest.List([]string{"a", "bc"}) != digest.Sum("1:a2:bc") {
		t.Error("List is not Sum of the joined text")
	}
	for text, want := range map[string]bool{
		"0123456789abcdef": true, "0123456789abcdeF": false, "": false, "0123456789abcde": false,
		"0123456789abcdef0": false, "0123456789abcdeg": false, "0123456789abcde ": false, "/123456789abcdef": false, ":123456789abcdef": false, "`123456789abcdef": false,
	} {
		if digest.Is(text) != want {
			t.Errorf("Is %q", text)
		}
	}
}

// plain computes a digest from the words of the document, with another way to take the blocks.
func plain(text string) string {
	padded := text + strings.Repeat("\x00", 8-len(text)%8)
	x := uint64(7046029254386353131) ^ uint64(len(text))
	for ; padded != ""; padded = padded[8:] {
		block := uint64(0)
		for i := 0; i < 8; i++ {
			block |= uint64(padded[i]) << (56 - 8*i)
		}
		x ^= block
		x *= 6364136223846793005
		x ^= x >> 33
		x *= 2685821657736338717
		x ^= x >> 27
	}
	s := ""
	for i := 60; i >= 0; i -= 4 {
		s += string("0123456789abcdef"[x>>i&15])
	}
	return s
}

func TestForm(t *testing.T) { // P1.2
	r := rand.New(rand.NewSource(1))
	for range 500 {
		s := random(r, r.Intn(40))
		if d := digest.Sum(s); !digest.Is(d) {
			t.Errorf("%q: %q", s, d)
		}
		if d := digest.List([]string{s, s}); !digest.Is(d) {
			t.Errorf("%q: %q", s, d)
		}
	}
}

func TestShortTexts(t *testing.T) { // P1.3
	seen := map[string]string{}
	r := rand.New(rand.NewSource(2))
	texts := []string{"", "\x00", "\x00\x00", strings.Repeat("\x00", 7), strings.Repeat("\xff", 7)}
	for range 5000 {
		texts = append(texts, random(r, r.Intn(8)))
	}
	for _, s := range texts {
		d := digest.Sum(s)
		if old, ok := seen[d]; ok && old != s {
			t.Errorf("%q and %q", old, s)
		}
		seen[d] = s
	}
}

func TestOneBlock(t *testing.T) { // P1.4
	r := rand.New(rand.NewSource(3))
	for range 2000 {
		a := []byte(random(r, 1+r.Intn(50)))
		b := []byte(string(a))
		at := r.Intn(len(a)) / 8 * 8
		for i := at; i < min(at+8, len(b)); i++ {
			b[i] = byte(r.Intn(256))
		}
		if string(a) != string(b) && digest.Sum(string(a)) == digest.Sum(string(b)) {
			t.Errorf("%q and %q", a, b)
		}
	}
}

func TestLists(t *testing.T) { // P1.5
	lists := [][]string{nil, {""}, {"", ""}, {"a"}, {"a", ""}, {"", "a"}, {"ab"}, {"a", "b"}, {"0:"}, {"1:a"}}
	seen := map[string]bool{}
	for _, l := range lists {
		seen[digest.List(l)] = true
	}
	if len(seen) != len(lists) {
		t.Error("different lists have one digest")
	}
}

func TestEqualArguments(t *testing.T) { // P1 and P3
	long := strings.Repeat("x", 1<<20)
	if digest.Sum(long) != digest.Sum(long) || digest.List([]string{long}) != digest.List([]string{long}) || digest.Is(long) {
		t.Error("not reproducible")
	}
}

func random(r *rand.Rand, n int) string {
	b := make([]byte, n)
	for i := range b {
		b[i] = byte(r.Intn(256))
	}
	return string(b)
}
