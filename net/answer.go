package net

import (
	"slices"
	"strconv"
	"strings"

	"bogie/api"
	"bogie/digest"
	"bogie/joined"
	"bogie/record"
)

const (
	mostSmall   = 16 // Ids of a small range
	mostIds     = 999999
	mostBytes   = 18000 // of a want, or an offer, with several Ids or ranges
	mostPrefix  = 16
	hexadecimal = "0123456789abcdef"
)

// depot is the records of a depot.
type depot struct {
	texts map[string]string // by Ids
	ids   []string          // in increasing order
}

func newDepot(texts []string) depot {
	d := depot{texts: map[string]string{}}
	for _, text := range texts {
		r, err := record.Parse(text)
		if err != api.OK {
			continue
		}
		id := record.Id(r)
		if _, there := d.texts[id]; !there {
			d.texts[id] = text
			d.ids = append(d.ids, id)
		}
	}
	slices.Sort(d.ids)
	return d
}

// span is a range of Ids: those that begin with a prefix; one that is offered has Ids only if it is small.
type span struct {
	prefix  string
	number  int
	summary string
	ids     []string
}

func (s span) isSmall() bool { return s.number <= mostSmall }

// span returns the own range of a prefix.
func (d depot) span(prefix string) span {
	from, _ := slices.BinarySearch(d.ids, prefix)
	ids := d.ids[from:]
	to := slices.IndexFunc(ids, func(id string) bool { return !strings.HasPrefix(id, prefix) })
	if to >= 0 {
		ids = ids[:to]
	}
	return span{prefix: prefix, number: len(ids), summary: digest.List(ids), ids: ids}
}

// elements returns what an offer has for a range.
func (s span) elements() []string {
	l := []string{s.prefix, strconv.Itoa(s.number), s.summary}
	if s.isSmall() {
		l = append(l, s.ids...)
	}
	return l
}

func offer(l []span) string {
	elements := []string{"offer", strconv.Itoa(len(l))}
	for _, s := range l {
		elements = append(elements, s.elements()...)
	}
	return joined.Text(elements...)
}

func want(ids []string) string { return joined.Text(append([]string{"want"}, ids...)...) }

// Offer returns a message that says which records a depot has.
func Offer(texts []string) (string, api.Errno) {
	if len(texts) > api.MaxRecords {
		return "", api.ErrLimit
	}
	return offer([]span{newDepot(texts).span("")}), api.OK
}

// Answer returns the messages that answer one.
func Answer(texts []string, message string) ([]string, api.Errno) {
	if len(message) > api.MaxSource || len(texts) > api.MaxRecords {
		return nil, api.ErrLimit
	}
	if ids, ok := readWant(message); ok {
		a := &answer{depot: newDepot(texts), found: map[string]bool{}}
		for _, id := range ids {
			a.send(id)
		}
		return a.messages(), api.OK
	}
	if spans, ok := readOffer(message); ok {
		a := &answer{depot: newDepot(texts), found: map[string]bool{}}
		for _, s := range spans {
			a.compare(s)
		}
		return a.messages(), api.OK
	}
	return nil, api.OK
}

// answer is what a depot answers.
type answer struct {
	depot
	found   map[string]bool // the Ids of what is sent
	sent    []string
	wanted  []string
	offered []span
}

// send sends an own record, once.
func (a *answer) send(id string) {
	if text, own := a.texts[id]; own && !a.found[id] {
		a.found[id] = true
		a.sent = append(a.sent, text)
	}
}

// compare answers an offered range.
func (a *answer) compare(s span) {
	own := a.span(s.prefix)
	switch {
	case s.isSmall():
		for _, id := range own.ids {
			if !slices.Contains(s.ids, id) {
				a.send(id)
			}
		}
		for _, id := range s.ids {
			if _, there := a.texts[id]; !there {
				a.wanted = append(a.wanted, id)
			}
		}
	case own.number == s.number && own.summary == s.summary:
	case own.isSmall():
		a.offered = append(a.offered, own)
	default:
		for i := range len(hexadecimal) {
			a.offered = append(a.offered, a.span(s.prefix+hexadecimal[i:i+1]))
		}
	}
}

// messages returns all messages, in order.
func (a *answer) messages() []string {
	l := slices.Clone(a.sent)
	l = append(l, divided(a.wanted, want)...)
	return append(l, divided(a.offered, offer)...)
}

// divided returns messages about a list, each of which is about as many elements as it has room for, and one at least.
func divided[T any](l []T, text func(l []T) string) []string {
	var messages []string
	for len(l) > 0 {
		n := 1
		for n < len(l) && len(text(l[:n+1])) <= mostBytes {
			n++
		}
		messages = append(messages, text(l[:n]))
		l = l[n:]
	}
	return messages
}

// readWant returns the Ids of a want; false if a message is none.
func readWant(message string) ([]string, bool) {
	l, ok := joined.List(message)
	if !ok || len(l) < 2 || l[0] != "want" {
		return nil, false
	}
	return l[1:], !slices.ContainsFunc(l[1:], func(id string) bool { return !digest.Is(id) })
}

// readOffer returns the ranges of an offer; false if a message is none.
func readOffer(message string) ([]span, bool) {
	l, ok := joined.List(message)
	if !ok || len(l) < 2 || l[0] != "offer" {
		return nil, false
	}
	number, ok := count(l[1])
	l = l[2:]
	var spans []span
	for ok && len(l) > 0 {
		var s span
		s, l, ok = readSpan(l)
		spans = append(spans, s)
	}
	return spans, ok && len(spans) == number && number > 0
}

// readSpan returns the first range of the elements of an offer, and the elements that follow it.
func readSpan(l []string) (span, []string, bool) {
	if len(l) < 3 {
		return span{}, nil, false
	}
	n, ok := count(l[1])
	s := span{prefix: l[0], number: n, summary: l[2]}
	l = l[3:]
	if !ok || !isPrefix(s.prefix) || !digest.Is(s.summary) {
		return span{}, nil, false
	}
	if !s.isSmall() {
		return s, l, true
	}
	if n > len(l) {
		return span{}, nil, false
	}
	s.ids = l[:n]
	for i, id := range s.ids {
		if !digest.Is(id) || !strings.HasPrefix(id, s.prefix) || i > 0 && s.ids[i-1] >= id {
			return span{}, nil, false
		}
	}
	return s, l[n:], digest.List(s.ids) == s.summary
}

// count returns a number of Ids, or ranges; false if a text is none.
func count(text string) (int, bool) {
	n, err := strconv.Atoi(text)
	return n, err == nil && n >= 0 && n <= mostIds && strconv.Itoa(n) == text
}

func isPrefix(s string) bool {
	return len(s) <= mostPrefix && strings.Trim(s, hexadecimal) == ""
}
