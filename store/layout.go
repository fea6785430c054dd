package store

import (
	"iter"
	"maps"
	"slices"
	"strconv"
	"strings"

	"bogie/api"
	"bogie/digest"
	"bogie/joined"
)

const (
	heads       = 2  // the first sectors
	contentSize = 48 // of a sealed sector
	pieceSize   = 46
	countDigits = 7
	zeros       = "\x00\x00\x00\x00\x00\x00\x00\x00\x00\x00\x00\x00\x00\x00\x00\x00\x00\x00\x00\x00\x00\x00\x00\x00\x00\x00\x00\x00\x00\x00\x00\x00" +
		"\x00\x00\x00\x00\x00\x00\x00\x00\x00\x00\x00\x00\x00\x00\x00\x00\x00\x00\x00\x00\x00\x00\x00\x00\x00\x00\x00\x00\x00\x00\x00\x00"
)

// sector is what is written to a place.
type sector struct {
	place int
	text  string
}

// position is the area that is used, and how many of its sectors.
type position struct{ area, count int }

// digits returns a number with leading zeros.
func digits(n, number int) string {
	s := strconv.Itoa(n)
	return strings.Repeat("0", max(0, number-len(s))) + s
}

// sealed returns a sealed sector; what the content does not fill has zero bytes.
func sealed(place int, content string) sector {
	content += zeros[:contentSize-len(content)]
	return sector{place, digest.Sum(digits(place, 8)+content) + content}
}

// content returns the content of a sealed sector; false if it is none.
func content(place int, text string) (string, bool) {
	c := text[len(text)-contentSize:]
	return c, sealed(place, c).text == text
}

func head(p position, place int) sector {
	return sealed(place, digits(p.area, 1)+digits(p.count, countDigits))
}

// headed returns the position of a head; false if a text is none at a place, for areas of a size.
func headed(place, size int, text string) (position, bool) {
	c, ok := content(place, text)
	if !ok {
		return position{}, false
	}
	area, _ := strconv.Atoi(c[:1])
	count, _ := strconv.Atoi(c[1 : 1+countDigits])
	p := position{area, count}
	return p, area >= 0 && area <= 1 && count >= 0 && count <= size && head(p, place).text == text
}

// pieces yields the pieces of a text, with their indices.
func pieces(text string) iter.Seq2[int, string] {
	return func(yield func(int, string) bool) {
		for i := 0; text != ""; i++ {
			n := min(pieceSize, len(text))
			if !yield(i, text[:n]) {
				return
			}
			text = text[n:]
		}
	}
}

// sectorsOf returns the sectors of the pieces of a text, from a place on.
func sectorsOf(text string, place int) []sector {
	var l []sector
	for i, piece := range pieces(text) {
		l = append(l, sealed(place+i, digits(len(piece), 2)+piece))
	}
	return l
}

// pieceIn returns the piece of a sector; false if it is none, or empty.
func pieceIn(place int, text string) (string, bool) {
	c, ok := content(place, text)
	if !ok {
		return "", false
	}
	n, err := strconv.Atoi(c[:2])
	if err != nil || n < 1 || n > pieceSize {
		return "", false
	}
	piece := c[2 : 2+n]
	return piece, sealed(place, digits(n, 2)+piece).text == text
}

// commitText returns the text of a commit that puts some keys, and removes others, which are in order.
func commitText(put map[string]string, drop []string) string {
	l := []string{strconv.Itoa(len(put))}
	for _, key := range slices.Sorted(maps.Keys(put)) {
		l = append(l, key, put[key])
	}
	l = append(l, strconv.Itoa(len(drop)))
	return joined.Text(joined.Text(append(l, drop...)...))
}

// replay returns what the texts of commits lead to, one after the other; false if a text is not such texts.
func replay(text string) (map[string]string, bool) {
	contents := map[string]string{}
	for text != "" {
		inner, rest, _ := joined.Cut(text)
		l, _ := joined.List(inner)
		put, drop, ok := changes(l)
		if !ok || commitText(put, drop)+rest != text {
			return nil, false // (a text in another order, or with a key twice, is none of a commit)
		}
		apply(contents, put, drop)
		text = rest
	}
	return contents, true
}

// changes returns what the elements of a commit put and remove; false if they surely are none.
func changes(l []string) (map[string]string, []string, bool) {
	if len(l) < 1 {
		return nil, nil, false
	}
	n, err := strconv.Atoi(l[0])
	if err != nil || n < 0 || n > len(l)/2-1 {
		return nil, nil, false
	}
	put := map[string]string{}
	for i := range n {
		put[l[1+2*i]] = l[2+2*i]
	}
	drop := l[2+2*n:]
	return put, drop, len(l) > 2 && slices.IsSorted(drop) && checked(put, drop) == api.OK && len(slices.Compact(slices.Clone(drop))) == len(drop)
}

// checked returns the error of keys that are put or removed.
func checked(put map[string]string, drop []string) api.Errno {
	isKey := func(key string) bool { return key != "" && len(key) <= api.MaxValue }
	for _, key := range drop {
		if _, both := put[key]; both || !isKey(key) {
			return api.ErrArg
		}
	}
	long := false
	for key, value := range put {
		if !isKey(key) {
			return api.ErrArg
		}
		long = long || len(value) > api.MaxSource
	}
	if long {
		return api.ErrLimit
	}
	return api.OK
}

func apply(contents, put map[string]string, drop []string) {
	maps.Copy(contents, put)
	for _, key := range drop {
		delete(contents, key)
	}
}
