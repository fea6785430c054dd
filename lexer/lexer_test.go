package lexer_test

import (
	"math/rand"
	"reflect"
	"strings"
	"testing"

	"bogie/api"
	"bogie/lexer"
)

// short returns tokens as letters of their kinds, offsets left out, and their texts.
func short(l []api.Token) string {
	s := ""
	for _, t := range l {
		s += "?nds."[t.Kind:t.Kind+1] + t.Text + "|"
	}
	return s
}

func TestValues(t *testing.T) { // P5.1: E1
	for text, want := range map[string]string{
		"":                         "",
		" \t\n # only gaps":        "",
		`way w1 7-"a\"b"# y`:       `nway|nw1|d7|.-|sa"b|`,
		"a#b\nc":                   "na|nc|",
		";,.:(){}[]=</>+-*":        ".;|.,|..|.:|.(|.)|.{|.}|.[|.]|.=|.<|./|.>|.+|.-|.*|",
		"A_9z Z":                   "nA_9z|nZ|",
		"0000000 9999999":          "d0000000|d9999999|",
		"1\"\"2":                   "d1|s|d2|",
		`"\\\n\"#;` + "\x00\xff\"": "s\\\n\"#;\x00\xff|",
		"a=1;b":                    "na|.=|d1|.;|nb|",
		strings.Repeat("a", 24):    "n" + strings.Repeat("a", 24) + "|",
		"7#\n":                     "d7|",
		"\"\t\r\"":                 "s\t\r|",
	} {
		if l, err, at := lexer.Lex(text); short(l) != want || err != api.OK || at != 0 {
			t.Errorf("%q: %q, %d, %d", text, short(l), err, at)
		}
	}
	l, _, _ := lexer.Lex(`way w1 7-"a\"b"# y`)
	for i, at := range []int{0, 4, 7, 8, 9} {
		if l[i].At != at {
			t.Error(l[i], at)
		}
	}
}

func TestErrors(t *testing.T) { // P5.1: E1
	many := strings.Repeat("; ", 5000)
	for _, c := range []struct {
		text string
		err  api.Errno
		at   int
	}{
		{"a !b", api.ErrChar, 2}, {"7x", api.ErrNumber, 0}, {`a "b`, api.ErrChar, 2}, {"\n" + strings.Repeat("b", 25), api.ErrLimit, 1},
		{"7_", api.ErrNumber, 0}, {" 12345678", api.ErrNumber, 1}, {"12345678 !", api.ErrNumber, 0}, {"_a", api.ErrChar, 0}, {"\r", api.ErrChar, 0},
		{"a \"b\nc\"", api.ErrChar, 2}, {`"\t"`, api.ErrChar, 0}, {`"\`, api.ErrChar, 0}, {`"\"`, api.ErrChar, 0}, {"\x80", api.ErrChar, 0}, {"a\x00", api.ErrChar, 1},
		{"! 7x", api.ErrChar, 0}, {"7x !", api.ErrNumber, 0}, {"é", api.ErrChar, 0}, {"\"a\\\nb\"", api.ErrChar, 0},
		{many + ";", api.ErrLimit, 10000}, {many + "!", api.ErrChar, 10000}, {many + "7x", api.ErrNumber, 10000}, {many + "\"", api.ErrChar, 10000}, {many + "# !", api.OK, 0},
		{strings.Repeat(" ", 20000), api.OK, 0}, {strings.Repeat(" ", 20001), api.ErrLimit, -1}, {"!" + strings.Repeat(" ", 20000), api.ErrLimit, -1},
	} {
		l, err, at := lexer.Lex(c.text)
		if err != c.err || at != c.at || err != api.OK && len(l) != 0 {
			t.Errorf("%.20q: %d, %d", c.text, err, at)
		}
	}
	if l, _, _ := lexer.Lex(many); len(l) != 5000 {
		t.Error(len(l))
	}
}

// random returns a text of pieces, most of which are tokens.
func random(r *rand.Rand, pieces []string) string {
	s := ""
	for range r.Intn(12) {
		s += pieces[r.Intn(len(pieces))]
	}
	return s
}

var good = []string{"a", "b_1", "7", "0012345", `"x y"`, `"\n\\\""`, ";", "(", "-", " ", "\t", "\n", "# c\n", " "}

var every = append([]string{"!", "\"", "\\", "_", "\r", "\xff", "12345678", "#", strings.Repeat("q", 13)}, good...)

func TestPlaces(t *testing.T) { // P5.2
	r := rand.New(rand.NewSource(1))
	for range 3000 {
		text := random(r, every)
		l, err, _ := lexer.Lex(text)
		if err != api.OK {
			continue
		}
		end := 0
		gap := func(s string) {
			for line := range strings.Lines(s) {
				line, _, _ = strings.Cut(line, "#")
				if strings.Trim(line, " \t\n") != "" {
					t.Fatalf("%q: no gap: %q", text, s)
				}
			}
		}
		for _, k := range l {
			if k.At < end {
				t.Fatal(text, l)
			}
			gap(text[end:k.At])
			bytes := k.Text
			if k.Kind == api.TokenString {
				bytes = lexer.Quote(k.Text)
			}
			if !strings.HasPrefix(text[k.At:], bytes) {
				t.Fatal(text, k)
			}
			end = k.At + len(bytes)
		}
		gap(text[end:])
	}
}

func TestAgain(t *testing.T) { // P5.3
	r := rand.New(rand.NewSource(2))
	for range 1000 {
		l, err, _ := lexer.Lex(random(r, good))
		text := ""
		for _, k := range l {
			if k.Kind == api.TokenString {
				text += lexer.Quote(k.Text) + " "
			} else {
				text += k.Text + " "
			}
		}
		again, err2, _ := lexer.Lex(text)
		if err == api.OK && (err2 != api.OK || short(again) != short(l)) {
			t.Fatalf("%q: %q", text, short(again))
		}
	}
}

func TestParts(t *testing.T) { // P5.4
	r := rand.New(rand.NewSource(3))
	for range 2000 {
		a, b := random(r, every), random(r, every)
		l, err, _ := lexer.Lex(a)
		m, err2, _ := lexer.Lex(b)
		both, err3, _ := lexer.Lex(a + "\n" + b)
		if err != api.OK || err2 != api.OK {
			continue
		}
		for _, k := range m {
			k.At += len(a) + 1
			l = append(l, k)
		}
		if err3 != api.OK || len(l) != len(both) || len(l) > 0 && !reflect.DeepEqual(l, both) {
			t.Fatalf("%q, %q", a, b)
		}
	}
}

func TestBeginnings(t *testing.T) { // P5.5
	r := rand.New(rand.NewSource(4))
	for range 3000 {
		text := random(r, every)
		_, err, at := lexer.Lex(text)
		if err == api.OK {
			continue
		}
		if _, before, _ := lexer.Lex(text[:at]); before != api.OK {
			t.Fatalf("%q: before %d", text, at)
		}
		if _, from, zero := lexer.Lex(text[at:]); from != err || zero != 0 {
			t.Fatalf("%q: from %d", text, at)
		}
	}
}

func TestGaps(t *testing.T) { // P5.6
	r := rand.New(rand.NewSource(5))
	gaps := []string{" ", "\t", "\n", "# x \"\n", " #\n", "  "}
	for range 2000 {
		text, gap := random(r, every), gaps[r.Intn(len(gaps))]
		l, err, at := lexer.Lex(text)
		m, err2, at2 := lexer.Lex(gap + text)
		if err != err2 || short(l) != short(m) || err != api.OK && at2 != at+len(gap) {
			t.Fatalf("%q %q", gap, text)
		}
		if err != api.OK {
			continue
		}
		if strings.Contains(text, "#") {
			text += "\n"
		}
		if m, err, _ = lexer.Lex(text + gap); err != api.OK || short(l) != short(m) {
			t.Fatalf("%q %q", text, gap)
		}
		for i := range l { // before the next token, and so after one
			wide := text[:l[i].At] + gap + text[l[i].At:]
			if m, err, _ = lexer.Lex(wide); err != api.OK || short(l) != short(m) {
				t.Fatalf("%q", wide)
			}
		}
	}
}

func TestQuotes(t *testing.T) { // P5.7, and P5.1: E2
	for s, want := range map[string]string{"": `""`, `a"\` + "\n": `"a\"\\\n"`, "\t\r\x00\xff#": "\"\t\r\x00\xff#\"", "n": `"n"`, `\n`: `"\\n"`} {
		if got := lexer.Quote(s); got != want {
			t.Errorf("%q: %s", s, got)
		}
	}
	r := rand.New(rand.NewSource(6))
	for range 2000 {
		b := make([]byte, r.Intn(20))
		for i := range b {
			b[i] = "\\\"\nn\x00\xff a#"[r.Intn(9)]
		}
		l, err, _ := lexer.Lex(lexer.Quote(string(b)))
		if err != api.OK || len(l) != 1 || l[0] != (api.Token{Kind: api.TokenString, Text: string(b)}) {
			t.Fatalf("%q: %v", b, l)
		}
	}
}

func TestNames(t *testing.T) { // P5.8, and P5.1: E3
	names := map[string]bool{"a": true, "Z_9": true, "": false, "_a": false, "9": false, "a-b": false, "a b": false, " a": false, "a\n": false, "é": false, "a.": false,
		"a@": false, "a[": false, "a`": false, "a{": false, "[": false, "@": false, "a/": false, "a:": false, strings.Repeat("x", 24): true, strings.Repeat("x", 25): false}
	for s, want := range names {
		if lexer.Name(s) != want {
			t.Errorf("%q", s)
		}
	}
	r := rand.New(rand.NewSource(7))
	for range 3000 {
		b := make([]byte, r.Intn(4))
		for i := range b {
			b[i] = byte(r.Intn(256))
		}
		s := string(b)
		l, err, _ := lexer.Lex(s)
		one := err == api.OK && len(l) == 1 && l[0] == (api.Token{Kind: api.TokenName, Text: s})
		if lexer.Name(s) != one {
			t.Fatalf("%q", s)
		}
	}
}

func TestEqualArguments(t *testing.T) { // P1 and P3
	r := rand.New(rand.NewSource(8))
	for range 500 {
		text := random(r, every)
		a, err, at := lexer.Lex(text)
		b, err2, at2 := lexer.Lex(text)
		if !reflect.DeepEqual(a, b) || err != err2 || at != at2 {
			t.Fatalf("%q", text)
		}
	}
}
