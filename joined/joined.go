// Package joined has the joined texts of lists (shared/doc/01-digest.md), from which the lists can be read again.
package joined

import (
	"strconv"
	"strings"
)

// Text returns the joined text of a list.
func Text(l ...string) string {
	var b strings.Builder
	for _, s := range l {
		b.WriteString(strconv.Itoa(len(s)))
		b.WriteByte(':')
		b.WriteString(s)
	}
	return b.String()
}

// Cut returns the first element of a joined text, and what follows it; false if no element begins there.
func Cut(s string) (string, string, bool) {
	digits, rest, ok := strings.Cut(s, ":")
	if !ok {
		return "", "", false
	}
	n, err := strconv.Atoi(digits)
	// A length has just one text: other ones (with a sign, or leading zeros) are refused.
	if err != nil || n < 0 || n > len(rest) || strconv.Itoa(n) != digits {
		return "", "", false
	}
	return rest[:n], rest[n:], true
}

// List returns the list with a joined text; false if it is none.
func List(s string) ([]string, bool) {
	var l []string
	for s != "" {
		e, rest, ok := Cut(s)
		if !ok {
			return nil, false
		}
		l, s = append(l, e), rest
	}
	return l, true
}
