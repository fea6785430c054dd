// Package digest implements digests of texts: see shared/doc/01-digest.md.
package digest

import "bogie/joined"

const (
	blockSize = 8
	length    = 16 // the digits of a digest
	start     = uint64(7046029254386353131)
)

// Sum returns the digest of a text.
func Sum(text string) string {
	at := 0
	next := func() [blockSize]byte {
		var b [blockSize]byte // what the text does not fill stays 0
		copy(b[:], text[min(at, len(text)):])
		at += blockSize
		return b
	}
	state := start ^ uint64(len(text))
	for range len(text)/blockSize + 1 {
		state = mix(state ^ number(next()))
	}
	return digits(state)
}

// List returns the digest of the joined text of a list.
func List(l []string) string { return Sum(joined.Text(l...)) }

// Is reports whether a text is a digest.
func Is(text string) bool {
	for i := range len(text) {
		c := text[i]
		if (c < '0' || c > '9') && (c < 'a' || c > 'f') {
			return false
		}
	}
	return len(text) == length
}

// number returns the number of a block, whose first byte is the most significant one.
func number(block [blockSize]byte) uint64 {
	x := uint64(0)
	for _, c := range block {
		x = x<<8 | uint64(c)
	}
	return x
}

func mix(x uint64) uint64 {
	x *= 6364136223846793005
	x ^= x >> 33
	x *= 2685821657736338717
	return x ^ x>>27
}

// digits returns a number in hexadecimal digits, the most significant one first.
func digits(x uint64) string {
	var b [length]byte
	for i := range b {
		b[length-1-i] = "0123456789abcdef"[x&15]
		x >>= 4
	}
	return string(b[:])
}
