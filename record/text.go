package record

import (
	"strconv"
	"strings"

	"bogie/api"
	"bogie/joined"
	"bogie/report"
	"bogie/rule"
)

// writer writes joined texts.
type writer struct{ strings.Builder }

// put writes elements.
func (w *writer) put(l ...string) { w.WriteString(joined.Text(l...)) }

// number writes numbers.
func (w *writer) number(l ...int) {
	for _, n := range l {
		w.put(strconv.Itoa(n))
	}
}

// counted writes the number of elements of a list, and these.
func (w *writer) counted(l []string) {
	w.number(len(l))
	w.put(l...)
}

// bare returns the bare text of a record.
func bare(r api.Record) string {
	var w writer
	w.number(r.Kind, r.Author, r.Number)
	w.put(r.Prev)
	w.number(r.Clock)
	w.put(r.Target, r.Name, r.Text)
	w.number(len(r.Members))
	w.number(r.Members...)
	told, _ := report.Text(r.Report) // empty for no report, and no rule
	w.put(told)
	w.number(r.Amendment.From, r.Amendment.To)
	if r.Amendment.Void {
		w.number(1)
	} else {
		w.number(0)
	}
	amended, _ := rule.Text(r.Amendment.Rule)
	w.put(amended)
	w.put(r.Concession.Part, r.Concession.Rule)
	w.number(r.Concession.To)
	w.put(r.Cost.Part, r.Cost.Owner)
	w.number(r.Cost.Day, r.Cost.Amount)
	w.put(r.Transfer.From, r.Transfer.To)
	w.number(r.Transfer.Amount)
	return w.String()
}

// text returns the text of a record.
func text(r api.Record) string {
	var w writer
	w.WriteString(bare(r))
	w.number(r.Seal.Index)
	w.counted(r.Seal.Sig)
	w.counted(r.Seal.Path)
	return w.String()
}

// Text returns the text of a record.
func Text(r api.Record) (string, api.Errno) {
	if !Valid(r) {
		return "", api.ErrArg
	}
	return text(r), api.OK
}

// Parse returns the record of a text.
func Parse(s string) (api.Record, api.Errno) {
	if len(s) > api.MaxSource {
		return api.Record{}, api.ErrLimit
	}
	l, ok := joined.List(s)
	if !ok {
		return api.Record{}, api.ErrSyntax
	}
	r := read(l)
	// Every text but the one of this record is refused.
	if !Valid(r) || text(r) != s {
		return api.Record{}, api.ErrSyntax
	}
	return r, api.OK
}

// read returns the record that the elements of a text say, as far as they say one.
func read(l []string) api.Record {
	next := func() string {
		if len(l) == 0 {
			return ""
		}
		e := l[0]
		l = l[1:]
		return e
	}
	number := func() int {
		n, err := strconv.Atoi(next())
		if err != nil {
			return -1
		}
		return n
	}
	counted := func() []string {
		var all []string
		for n := min(number(), len(l)); n > 0; n-- {
			all = append(all, next())
		}
		return all
	}
	r := api.Record{Kind: number(), Author: number(), Number: number(), Prev: next(), Clock: number(), Target: next(), Name: next(), Text: next()}
	for _, m := range counted() {
		n, _ := strconv.Atoi(m)
		r.Members = append(r.Members, n)
	}
	r.Report, _ = report.Parse(next())
	r.Amendment.From, r.Amendment.To, r.Amendment.Void = number(), number(), next() == "1"
	r.Amendment.Rule, _, _ = rule.Parse(next())
	r.Concession = api.Concession{Part: next(), Rule: next(), To: number()}
	r.Cost = api.Cost{Part: next(), Owner: next(), Day: number(), Amount: number()}
	r.Transfer = api.Transfer{From: next(), To: next(), Amount: number()}
	r.Seal = api.Seal{Index: number(), Sig: counted(), Path: counted()}
	return r
}
