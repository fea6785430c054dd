package joined_test

import (
	"slices"
	"testing"

	"bogie/joined"
)

func TestText(t *testing.T) {
	if s := joined.Text("a", "", "b:c"); s != "1:a0:3:b:c" {
		t.Error(s)
	}
	if s := joined.Text(); s != "" {
		t.Error(s)
	}
}

func TestList(t *testing.T) {
	for _, l := range [][]string{nil, {""}, {"", ""}, {"a", "1:b", ":", "0123456789"}} {
		if got, ok := joined.List(joined.Text(l...)); !ok || !slices.Equal(got, l) {
			t.Error(l, got, ok)
		}
	}
	for _, s := range []string{"1", ":", "1:", "2:a", "01:a", "+1:a", "-1:a", "1:ab", "a:b", "99999999999999999999:a"} {
		if l, ok := joined.List(s); ok || l != nil {
			t.Error(s, l)
		}
	}
}

func TestCut(t *testing.T) {
	if e, rest, ok := joined.Cut("2:ab3:"); e != "ab" || rest != "3:" || !ok {
		t.Error(e, rest, ok)
	}
	if e, rest, ok := joined.Cut("3:ab"); e != "" || rest != "" || ok {
		t.Error(e, rest, ok)
	}
}
