package reader_test

import (
	"testing"

	"bogie/api"
	"bogie/reader"
)

// pair reads a name, a symbol and a number from 1 on.
func pair(r *reader.Reader) string {
	name := r.Take(api.TokenName)
	r.Symbol("=")
	if r.Expect(api.TokenNumber) == "0" {
		r.Fail(api.ErrRange)
	}
	switch r.Number() {
	case 7:
		name += "!"
	case 1234:
		name += "?"
	}
	if r.Took(api.TokenName, "and") {
		r.Word("so")
		name += "&"
	}
	return name
}

func TestRead(t *testing.T) {
	for _, c := range []struct {
		text, want string
		err        api.Errno
		at         int
	}{
		{"a = 5", "a", api.OK, 0}, {"a=7", "a!", api.OK, 0}, {"a=007", "a!", api.OK, 0}, {"a=77", "a", api.OK, 0}, {"a=1234 and so", "a?&", api.OK, 0}, {"a=1 and so", "a&", api.OK, 0},
		{"", "", api.ErrEnd, 0}, {"a = ", "", api.ErrEnd, 4}, {"a = b", "", api.ErrSyntax, 4}, {"a = 0 0", "", api.ErrRange, 4}, {"a = 5 5", "", api.ErrSyntax, 6},
		{"a = 5 and not", "", api.ErrSyntax, 10}, {"a - 5", "", api.ErrSyntax, 2}, {"a 5", "", api.ErrSyntax, 2}, {"a = 5 and", "", api.ErrEnd, 9}, {"a = !", "", api.ErrChar, 4},
	} {
		if got, err, at := reader.Read(c.text, pair); got != c.want || err != c.err || at != c.at {
			t.Error(c, got, err, at)
		}
	}
}

func TestAnyPanic(t *testing.T) {
	if n, err, at := reader.Read("a", func(r *reader.Reader) int { panic("x") }); n != 0 || err != api.ErrSyntax || at != 0 {
		t.Error(n, err, at)
	}
}
