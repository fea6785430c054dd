package formula

import (
	"strconv"

	"bogie/api"
	"bogie/reader"
)

// word returns the word, or the symbol, of an operation.
func word(op int) string {
	return [...]string{
		api.FormKm: "km", api.FormCycles: "cycles", api.FormLoad: "load", api.FormAdd: "+", api.FormSub: "-",
		api.FormMul: "*", api.FormDiv: "/", api.FormMin: "min", api.FormMax: "max", api.FormIf: "if",
	}[op]
}

// Text returns the text of a formula.
func Text(f api.Formula) (string, api.Errno) {
	if !Valid(f) {
		return "", api.ErrArg
	}
	return text(f), api.OK
}

func text(f api.Formula) string {
	switch f.Op {
	case api.FormNumber:
		return strconv.Itoa(f.N)
	case api.FormAdd, api.FormSub, api.FormMul, api.FormDiv:
		return operand(f, f.Kids[0], false) + " " + word(f.Op) + " " + operand(f, f.Kids[1], true)
	}
	s := word(f.Op)
	for i, kid := range f.Kids {
		s += [...]string{"(", ", ", ", "}[i] + text(kid)
	}
	if len(f.Kids) > 0 {
		s += ")"
	}
	return s
}

func isSum(f api.Formula) bool { return f.Op == api.FormAdd || f.Op == api.FormSub }

func isProduct(f api.Formula) bool { return f.Op == api.FormMul || f.Op == api.FormDiv }

// operand returns the text of a kid of a sum or product, in parentheses where it would be taken for something else.
func operand(f, kid api.Formula, second bool) string {
	if isProduct(f) && isSum(kid) || second && (isSum(f) && isSum(kid) || isProduct(f) && isProduct(kid)) {
		return "(" + text(kid) + ")"
	}
	return text(kid)
}

// Parse returns the formula of a text.
func Parse(s string) (api.Formula, api.Errno, int) {
	f, err, at := reader.Read(s, sum)
	if err == api.OK && !Valid(f) {
		return api.Formula{}, api.ErrLimit, 0
	}
	return f, err, at
}

func sum(r *reader.Reader) api.Formula { return level(r, product, api.FormAdd, api.FormSub) }

func product(r *reader.Reader) api.Formula { return level(r, factor, api.FormMul, api.FormDiv) }

// level reads what has operators of one kind, which belong together from the left.
func level(r *reader.Reader, part func(r *reader.Reader) api.Formula, ops ...int) api.Formula {
	f := part(r)
	for more := true; more; {
		more = false
		for _, op := range ops {
			if r.Took(api.TokenSymbol, word(op)) {
				f = api.Formula{Op: op, Kids: []api.Formula{f, part(r)}}
				more = true
			}
		}
	}
	return f
}

func factor(r *reader.Reader) api.Formula {
	if r.Next().Kind == api.TokenNumber {
		return api.Formula{Op: api.FormNumber, N: r.Number()}
	}
	for _, op := range []int{api.FormKm, api.FormCycles, api.FormLoad, api.FormMin, api.FormMax, api.FormIf} {
		if r.Took(api.TokenName, word(op)) {
			return api.Formula{Op: op, Kids: kids(r, arity(op))}
		}
	}
	r.Symbol("(")
	f := sum(r)
	r.Symbol(")")
	return f
}

// kids reads a number of kids in parentheses.
func kids(r *reader.Reader, number int) []api.Formula {
	var l []api.Formula
	for i := range number {
		r.Symbol([...]string{"(", ",", ","}[i])
		l = append(l, sum(r))
	}
	if number > 0 {
		r.Symbol(")")
	}
	return l
}
