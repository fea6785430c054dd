package formula

import (
	"bogie/api"
	"bogie/interval"
)

// value is what a node has: a number, or an interval.
type value interface {
	// with returns the result of an operation for this value and another one of its type.
	with(op int, other value) value
	// pick returns what FormIf has if this value decides, from two others of its type.
	pick(yes, no value) value
}

type number int

type span api.Interval

func saturated(n int) number { return number(max(-api.MaxAmount, min(n, api.MaxAmount))) }

func (n number) with(op int, other value) value {
	m, _ := other.(number)
	return number(result(op, n.exactly(), m.exactly()).Low)
}

func (n number) pick(yes, no value) value {
	if n > 0 {
		return yes
	}
	return no
}

// exactly returns the interval that has this number alone.
func (n number) exactly() api.Interval { return api.Interval{Low: int(n), High: int(n)} }

func (s span) with(op int, other value) value {
	t, _ := other.(span)
	return span(result(op, api.Interval(s), api.Interval(t)))
}

func (s span) pick(yes, no value) value {
	switch interval.Over(api.Interval(s), 0) {
	case api.Yes:
		return yes
	case api.No:
		return no
	}
	a, _ := yes.(span)
	b, _ := no.(span)
	return span(interval.Join(api.Interval(a), api.Interval(b)))
}

// result returns the result of an operation for valid intervals.
func result(op int, a, b api.Interval) api.Interval {
	switch op {
	case api.FormAdd:
		return interval.Add(a, b)
	case api.FormSub:
		return interval.Sub(a, b)
	case api.FormMul:
		return interval.Mul(a, b)
	case api.FormDiv:
		return quotients(a, b)
	case api.FormMin:
		return api.Interval{Low: min(a.Low, b.Low), High: min(a.High, b.High)}
	}
	return api.Interval{Low: max(a.Low, b.Low), High: max(a.High, b.High)}
}

// quotients returns the least interval with all quotients. Divisors of one sign have their extremes at bounds.
func quotients(a, b api.Interval) api.Interval {
	var all []int
	if b.Low <= 0 && b.High >= 0 {
		all = append(all, 0)
	}
	for _, part := range []api.Interval{{Low: b.Low, High: min(b.High, -1)}, {Low: max(b.Low, 1), High: b.High}} {
		if part.Low <= part.High {
			all = append(all, quotient(a.Low, part.Low), quotient(a.Low, part.High), quotient(a.High, part.Low), quotient(a.High, part.High))
		}
	}
	r := api.Interval{Low: all[0], High: all[0]}
	for _, q := range all {
		r = api.Interval{Low: min(r.Low, q), High: max(r.High, q)}
	}
	return r
}

// quotient rounds down; the divisor is not 0.
func quotient(n, divisor int) int {
	q := n / divisor
	if n%divisor != 0 && (n < 0) != (divisor < 0) {
		q--
	}
	return q
}
