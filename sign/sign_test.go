package sign_test

import (
	"reflect"
	"slices"
	"strconv"
	"testing"

	"bogie/api"
	"bogie/digest"
	"bogie/sign"
)

// links follows a chain.
func links(s string, n int) string {
	for ; n > 0; n-- {
		s = digest.Sum(s)
	}
	return s
}

// digits returns the digits of a message, as the document says.
func digits(message string) []int {
	var l []int
	sum := 0
	for _, c := range digest.Sum(message) {
		d, _ := strconv.ParseInt(string(c), 16, 8)
		l = append(l, int(d))
		sum += 15 - int(d)
	}
	return append(l, sum/16, sum%16)
}

func begin(secret string, key, k int) string {
	return digest.List([]string{secret, strconv.Itoa(key), strconv.Itoa(k)})
}

func oneTime(secret string, key int) string {
	var ends []string
	for k := range 18 {
		ends = append(ends, links(begin(secret, key, k), 15))
	}
	return digest.List(ends)
}

// root returns the root of the one-time keys from one on.
func root(secret string, from, height int) string {
	if height == 0 {
		return oneTime(secret, from)
	}
	return digest.List([]string{"node", root(secret, from, height-1), root(secret, from+1<<(height-1), height-1)})
}

func TestPublic(t *testing.T) { // P2.1: B1
	for _, secret := range []string{"", "s", "member 0", "\x00\xff"} {
		for height := range 4 {
			if p, err := sign.Public(secret, height); p != root(secret, 0, height) || err != api.OK {
				t.Error(secret, height, p, err)
			}
		}
	}
	if p, err := sign.Public("s", 8); p != root("s", 0, 8) || err != api.OK {
		t.Error(p, err)
	}
	for _, height := range []int{-1, 9, 1 << 40, -1 << 63} {
		if p, err := sign.Public("s", height); p != "" || err != api.ErrArg {
			t.Error(height, p, err)
		}
	}
}

func TestSign(t *testing.T) { // P2.1: B2
	for index := range 8 {
		message := "message " + strconv.Itoa(index)
		s, err := sign.Sign("s", 3, index, message)
		if err != api.OK || s.Index != index || len(s.Sig) != 18 {
			t.Fatal(s, err)
		}
		for k, d := range digits(message) {
			if s.Sig[k] != links(begin("s", index, k), d) {
				t.Error(index, k)
			}
		}
		want := []string{root("s", index^1, 0), root("s", index&4^index&2^2, 1), root("s", index&4^4, 2)}
		if !slices.Equal(s.Path, want) {
			t.Error(index, s.Path, want)
		}
	}
	for _, c := range [][2]int{{-1, 0}, {9, 0}, {2, 4}, {2, -1}, {0, 1}, {8, 256}} {
		if s, err := sign.Sign("s", c[0], c[1], "m"); err != api.ErrArg || !reflect.DeepEqual(s, api.Seal{}) {
			t.Error(c, s, err)
		}
	}
}

func TestVerify(t *testing.T) { // P2.1: B3
	public, _ := sign.Public("s", 2)
	s, _ := sign.Sign("s", 2, 2, "m")
	change := func(f func(*api.Seal)) api.Seal {
		c := api.Seal{Index: s.Index, Sig: slices.Clone(s.Sig), Path: slices.Clone(s.Path)}
		f(&c)
		return c
	}
	if !sign.Verify(public, "m", s) {
		t.Error("not accepted")
	}
	for i, c := range []api.Seal{
		{},
		change(func(c *api.Seal) { c.Index = 3 }),
		change(func(c *api.Seal) { c.Index = -2 }),
		change(func(c *api.Seal) { c.Index = 6 }), // the same bits on the path
		change(func(c *api.Seal) { c.Sig = c.Sig[:17] }),
		change(func(c *api.Seal) { c.Sig = append(c.Sig, c.Sig[0]) }),
		change(func(c *api.Seal) { c.Sig[17] = digest.Sum("x") }),
		change(func(c *api.Seal) { c.Sig[3] = "x" }),
		change(func(c *api.Seal) { c.Path[1] = digest.Sum("x") }),
		change(func(c *api.Seal) { c.Path[0] = "" }),
		change(func(c *api.Seal) { c.Path = c.Path[:1] }),
		change(func(c *api.Seal) { c.Path[0], c.Path[1] = c.Path[1], c.Path[0] }),
		change(func(c *api.Seal) { c.Path = append(c.Path, c.Path[0]) }),
	} {
		if sign.Verify(public, "m", c) {
			t.Error("accepted:", i)
		}
	}
	first, _ := sign.Sign("s", 2, 0, "m")
	first.Index = 4 // the same bits on the path
	if sign.Verify(public, "m", first) {
		t.Error("there is no such index")
	}
	if sign.Verify(public, "n", s) || sign.Verify("", "m", s) {
		t.Error("another message, or key, is accepted")
	}
}

// What is no digest is refused even if the root would be right: a chain with no links left, and a path with a root above it.
func TestVerifyDigests(t *testing.T) { // P2.1: B3
	var sig, ends []string
	for k, d := range digits("m") {
		s := "end " + strconv.Itoa(k)
		sig = append(sig, s)
		ends = append(ends, links(s, 15-d))
	}
	if sign.Verify(digest.List(ends), "m", api.Seal{Sig: sig}) {
		t.Error("chains that are no digests are accepted")
	}
	s, _ := sign.Sign("s", 0, 0, "m")
	public := digest.List([]string{"node", oneTime("s", 0), "x"})
	if sign.Verify(public, "m", api.Seal{Sig: s.Sig, Path: []string{"x"}}) {
		t.Error("a path that is no digest is accepted")
	}
	path, top := []string{}, oneTime("s", 0)
	for range 9 {
		path = append(path, digest.Sum("x"))
		top = digest.List([]string{"node", top, digest.Sum("x")})
		if sign.Verify(top, "m", api.Seal{Sig: s.Sig, Path: path}) != (len(path) <= 8) {
			t.Error("path of", len(path))
		}
	}
}

func TestCorrectness(t *testing.T) { // P2.2
	for height := range 5 {
		public, _ := sign.Public("secret", height)
		for index := range 1 << height {
			message := strconv.Itoa(index * 7919)
			s, err := sign.Sign("secret", height, index, message)
			if err != api.OK || !sign.Verify(public, message, s) {
				t.Error(height, index, err)
			}
		}
	}
}

func TestSound(t *testing.T) { // P2.3: no other text in any place is accepted
	public, _ := sign.Public("s", 1)
	for i := range 18 + 1 {
		for _, other := range []string{digest.Sum("x"), digest.Sum(digest.Sum("x")), "0000000000000000"} {
			s, _ := sign.Sign("s", 1, 1, "m")
			if i < 18 {
				s.Sig[i] = other
			} else {
				s.Path[0] = other
			}
			if sign.Verify(public, "m", s) {
				t.Error(i, other)
			}
		}
	}
}

func TestOtherMessages(t *testing.T) { // P2.4
	public, _ := sign.Public("s", 0)
	for i := range 200 {
		a, b := strconv.Itoa(i), strconv.Itoa(i+1)
		s, _ := sign.Sign("s", 0, 0, a)
		if sign.Verify(public, b, s) {
			t.Error(a, b)
		}
		// Chains that are followed further are stopped by the checksum.
		for k, d := range digits(b) {
			if e := digits(a)[k]; d > e {
				s.Sig[k] = links(s.Sig[k], d-e)
			}
		}
		if sign.Verify(public, b, s) {
			t.Error("forged:", a, b)
		}
	}
}

func TestOtherSecrets(t *testing.T) { // P2.5
	for _, other := range []string{"t", "", "s "} {
		public, _ := sign.Public(other, 2)
		s, _ := sign.Sign("s", 2, 1, "m")
		if sign.Verify(public, "m", s) {
			t.Error(other)
		}
	}
}

func TestForm(t *testing.T) { // P2.6, P1 and P3
	small, _ := sign.Sign("s", 0, 0, "m")
	for height := range 9 {
		p, _ := sign.Public("s", height)
		q, _ := sign.Public("s", height)
		s, _ := sign.Sign("s", height, 0, "m")
		again, _ := sign.Sign("s", height, 0, "m")
		if !digest.Is(p) || p != q || len(s.Sig) != 18 || len(s.Path) != height || !reflect.DeepEqual(s, again) {
			t.Error(height, p, s)
		}
		if !slices.Equal(small.Sig, s.Sig) {
			t.Error("other one-time keys at height", height)
		}
		for _, d := range append(slices.Clone(s.Sig), s.Path...) {
			if !digest.Is(d) {
				t.Error(height, d)
			}
		}
	}
}
