// Package reader reads languages whose texts consist of the tokens of package lexer, and finds the first error of a text.
package reader

import (
	"bogie/api"
	"bogie/lexer"
)

// Reader takes the tokens of a text one after the other. Its methods panic at the first error; Read recovers.
type Reader struct {
	tokens []api.Token
	next   int
	end    int // the length of the text
}

// failure is the error of a text, with its offset.
type failure struct {
	err api.Errno
	at  int
}

// Read returns what a function reads from a text, which it must read as a whole, OK and 0; otherwise the zero value, the first error and its offset.
func Read[T any](text string, read func(r *Reader) T) (result T, err api.Errno, at int) {
	var none T
	tokens, err, at := lexer.Lex(text)
	if err != api.OK {
		return none, err, at
	}
	defer func() {
		if e := recover(); e != nil {
			f, ok := e.(failure)
			if !ok {
				f = failure{err: api.ErrSyntax}
			}
			result, err, at = none, f.err, f.at
		}
	}()
	r := &Reader{tokens: tokens, end: len(text)}
	result = read(r)
	if r.More() {
		r.Unexpected()
	}
	return result, api.OK, 0
}

// More reports whether there is a further token.
func (r *Reader) More() bool { return r.next < len(r.tokens) }

// Next returns the next token, which stays; the zero one if there is none.
func (r *Reader) Next() api.Token {
	if !r.More() {
		return api.Token{}
	}
	return r.tokens[r.next]
}

// Unexpected is the error of a next token that may not be there, or of the end of the text.
func (r *Reader) Unexpected() {
	if !r.More() {
		panic(failure{api.ErrEnd, r.end})
	}
	r.Fail(api.ErrSyntax)
}

// Fail is an error at the next token.
func (r *Reader) Fail(err api.Errno) { panic(failure{err, r.Next().At}) }

// Skip takes the next token.
func (r *Reader) Skip() { r.next++ }

// Is reports whether the next token has a kind and a text.
func (r *Reader) Is(kind int, text string) bool {
	t := r.Next()
	return t.Kind == kind && t.Text == text
}

// Took takes the next token if it has a kind and a text, and reports whether it has.
func (r *Reader) Took(kind int, text string) bool {
	if !r.Is(kind, text) {
		return false
	}
	r.Skip()
	return true
}

// Symbol takes a symbol that must be there.
func (r *Reader) Symbol(text string) {
	if !r.Took(api.TokenSymbol, text) {
		r.Unexpected()
	}
}

// Word takes a name that must be there.
func (r *Reader) Word(text string) {
	if !r.Took(api.TokenName, text) {
		r.Unexpected()
	}
}

// Expect returns the text of the next token, which stays; it must have a kind.
func (r *Reader) Expect(kind int) string {
	if r.Next().Kind != kind {
		r.Unexpected()
	}
	return r.Next().Text
}

// Take takes the next token, which must have a kind, and returns its text.
func (r *Reader) Take(kind int) string {
	text := r.Expect(kind)
	r.Skip()
	return text
}

// Number takes a number, and returns it.
func (r *Reader) Number() int {
	n := 0
	for _, c := range []byte(r.Take(api.TokenNumber)) {
		n = 10*n + int(c-'0')
	}
	return n
}
