package formula

import (
	"strconv"

	"bogie/api"
	"bogie/lexer"
)

// word returns the word, or the symbol, of an operation.
func word(op int) string {
	return [...]string{
		api.FormKm: "km", api.FormCycles: "cycles", api.FormLoad: "load", api.FormAdd: "+", api.FormSub: "-",
		api.FormMul: "*", api.FormDiv: "/", api.FormMin: "min", api.FormMax: "max", api.FormIf: "if",
	}[op]
}

// Text returns the text of a formula.
func Text(f api.Formula) (string, api.Errno) {
	if !Valid(f) {
		return "", api.ErrArg
	}
	return text(f), api.OK
}

func text(f api.Formula) string {
	switch f.Op {
	case api.FormNumber:
		return strconv.Itoa(f.N)
	case api.FormAdd, api.FormSub, api.FormMul, api.FormDiv:
		return operand(f, f.Kids[0], false) + " " + word(f.Op) + " " + operand(f, f.Kids[1], true)
	}
	s := word(f.Op)
	for i, kid := range f.Kids {
		s += [...]string{"(", ", ", ", "}[i] + text(kid)
	}
	if len(f.Kids) > 0 {
		s += ")"
	}
	return s
}

func isSum(f api.Formula) bool { return f.Op == api.FormAdd || f.Op == api.FormSub }

func isProduct(f api.Formula) bool { return f.Op == api.FormMul || f.Op == api.FormDiv }

// operand returns the text of a kid of a sum or product, in parentheses where it would be taken for something else.
func operand(f, kid api.Formula, second bool) string {
	if isProduct(f) && isSum(kid) || second && (isSum(f) && isSum(kid) || isProduct(f) && isProduct(kid)) {
		return "(" + text(kid) + ")"
	}
	return text(kid)
}

// failure is the error of a text, with its offset.
type failure struct {
	err api.Errno
	at  int
}

type parser struct {
	tokens []api.Token
	next   int
	end    int // the length of the text
}

// Parse returns the formula of a text.
func Parse(s string) (f api.Formula, err api.Errno, at int) {
	tokens, err, at := lexer.Lex(s)
	if err != api.OK {
		return api.Formula{}, err, at
	}
	defer func() {
		if e := recover(); e != nil {
			known, ok := e.(failure)
			if !ok {
				known = failure{api.ErrSyntax, 0}
			}
			f, err, at = api.Formula{}, known.err, known.at
		}
	}()
	p := &parser{tokens: tokens, end: len(s)}
	f = p.sum()
	if p.next < len(tokens) {
		p.fail()
	}
	if !Valid(f) {
		return api.Formula{}, api.ErrLimit, 0
	}
	return f, api.OK, 0
}

// fail panics with the error of the next token.
func (p *parser) fail() {
	if p.next == len(p.tokens) {
		panic(failure{api.ErrEnd, p.end})
	}
	panic(failure{api.ErrSyntax, p.tokens[p.next].At})
}

// is reports whether the next token has a kind and a text.
func (p *parser) is(kind int, text string) bool {
	return p.next < len(p.tokens) && p.tokens[p.next].Kind == kind && p.tokens[p.next].Text == text
}

// symbol takes a symbol that must be there.
func (p *parser) symbol(text string) {
	if !p.is(api.TokenSymbol, text) {
		p.fail()
	}
	p.next++
}

func (p *parser) sum() api.Formula { return p.level(p.product, api.FormAdd, api.FormSub) }

func (p *parser) product() api.Formula { return p.level(p.factor, api.FormMul, api.FormDiv) }

// level takes what has operators of one kind, which belong together from the left.
func (p *parser) level(part func() api.Formula, ops ...int) api.Formula {
	f := part()
	for more := true; more; {
		more = false
		for _, op := range ops {
			if p.is(api.TokenSymbol, word(op)) {
				p.next++
				f = api.Formula{Op: op, Kids: []api.Formula{f, part()}}
				more = true
			}
		}
	}
	return f
}

func (p *parser) factor() api.Formula {
	if p.next < len(p.tokens) && p.tokens[p.next].Kind == api.TokenNumber {
		n, _ := strconv.Atoi(p.tokens[p.next].Text)
		p.next++
		return api.Formula{Op: api.FormNumber, N: n}
	}
	for _, op := range []int{api.FormKm, api.FormCycles, api.FormLoad, api.FormMin, api.FormMax, api.FormIf} {
		if p.is(api.TokenName, word(op)) {
			p.next++
			return api.Formula{Op: op, Kids: p.kids(arity(op))}
		}
	}
	p.symbol("(")
	f := p.sum()
	p.symbol(")")
	return f
}

// kids takes a number of kids in parentheses.
func (p *parser) kids(number int) []api.Formula {
	var l []api.Formula
	for i := range number {
		p.symbol([...]string{"(", ",", ","}[i])
		l = append(l, p.sum())
	}
	if number > 0 {
		p.symbol(")")
	}
	return l
}
