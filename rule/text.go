package rule

import (
	"strconv"
	"strings"

	"bogie/api"
	"bogie/lexer"
	"bogie/reader"
)

// Text returns the text of a rule.
func Text(r api.Rule) (string, api.Errno) {
	if !Valid(r) {
		return "", api.ErrArg
	}
	s := "rule " + r.Name + " for " + r.Kind + ": " + text(r.Cond) + ";\n"
	if len(s) > api.MaxSource {
		return "", api.ErrLimit
	}
	return s, api.OK
}

func text(e api.Expr) string {
	switch e.Op {
	case api.ExprNot:
		return "not " + operand(e.Kids[0])
	case api.ExprAnd, api.ExprOr:
		var l []string
		for _, kid := range e.Kids {
			l = append(l, operand(kid))
		}
		return strings.Join(l, " "+level(e.Op)+" ")
	case api.ExprLimit:
		s := "limit " + e.Name + " " + strconv.Itoa(e.N)
		if e.Extra != 0 {
			s += " plus " + strconv.Itoa(e.Extra)
		}
		return s
	case api.ExprOver:
		return "over " + e.Name + " " + strconv.Itoa(e.N)
	case api.ExprIs:
		return e.Name + " = " + lexer.Quote(e.Value)
	case api.ExprHas:
		return "has " + e.Name
	case api.ExprFitted:
		return "slot " + e.Name + " is " + e.Value
	case api.ExprAll:
		return "all " + e.Name + " (" + text(e.Kids[0]) + ")"
	case api.ExprAny:
		return "any " + e.Name + " (" + text(e.Kids[0]) + ")"
	case api.ExprCount:
		return "at least " + strconv.Itoa(e.N) + " " + e.Name
	}
	return "true"
}

// level returns the word between the kids of an ExprAnd or ExprOr.
func level(op int) string {
	if op == api.ExprAnd {
		return "and"
	}
	return "or"
}

// operand returns the text of a kid of an ExprNot, ExprAnd or ExprOr.
func operand(e api.Expr) string {
	if e.Op == api.ExprAnd || e.Op == api.ExprOr {
		return "(" + text(e) + ")"
	}
	return text(e)
}

// Parse returns the rule of a text.
func Parse(s string) (api.Rule, api.Errno, int) {
	r, err, at := reader.Read(s, func(r *reader.Reader) api.Rule {
		p := &parser{Reader: r}
		p.words = p.keywords()
		return p.rule()
	})
	if err == api.OK && !Valid(r) {
		return api.Rule{}, api.ErrLimit, 0
	}
	return r, err, at
}

// parser reads rules; words has what a condition is that begins with a key word, which was taken.
type parser struct {
	*reader.Reader
	words map[string]func() api.Expr
}

func (p *parser) rule() api.Rule {
	var r api.Rule
	p.Word("rule")
	r.Name = p.name()
	p.Word("for")
	r.Kind = p.name()
	p.Symbol(":")
	r.Cond = p.cond()
	p.Symbol(";")
	return r
}

func (p *parser) name() string { return p.Take(api.TokenName) }

// join reads parts of a level between which its word stands; a single one is not joined.
func join[T any](p *parser, word string, part func() T, joined func(l []T) T) T {
	l := []T{part()}
	for p.Took(api.TokenName, word) {
		l = append(l, part())
	}
	if len(l) == 1 {
		return l[0]
	}
	return joined(l)
}

// joined returns what makes one condition of several ones.
func joined(op int) func(l []api.Expr) api.Expr {
	return func(l []api.Expr) api.Expr { return api.Expr{Op: op, Kids: l} }
}

func (p *parser) cond() api.Expr {
	and := func() api.Expr { return join(p, level(api.ExprAnd), p.not, joined(api.ExprAnd)) }
	return join(p, level(api.ExprOr), and, joined(api.ExprOr))
}

// not reads what is on the lowest level.
func (p *parser) not() api.Expr {
	if p.Is(api.TokenSymbol, "(") {
		return p.inParentheses()
	}
	word := p.Expect(api.TokenName)
	if read, ok := p.words[word]; ok {
		p.Skip()
		return read()
	}
	if isReserved(word) {
		p.Unexpected()
	}
	e := api.Expr{Op: api.ExprIs, Name: p.name()}
	p.Symbol("=")
	e.Value = p.Expect(api.TokenString)
	if !isValue(e.Value) {
		p.Fail(api.ErrRange)
	}
	p.Skip()
	return e
}

func (p *parser) inParentheses() api.Expr {
	p.Symbol("(")
	e := p.cond()
	p.Symbol(")")
	return e
}

func (p *parser) keywords() map[string]func() api.Expr {
	inside := func(op int) func() api.Expr {
		return func() api.Expr {
			return api.Expr{Op: op, Name: p.name(), Kids: []api.Expr{p.inParentheses()}}
		}
	}
	return map[string]func() api.Expr{
		"true":  func() api.Expr { return api.Expr{Op: api.ExprTrue} },
		"not":   func() api.Expr { return api.Expr{Op: api.ExprNot, Kids: []api.Expr{p.not()}} },
		"limit": p.limit,
		"over":  func() api.Expr { return api.Expr{Op: api.ExprOver, Name: p.name(), N: p.Number()} },
		"has":   func() api.Expr { return api.Expr{Op: api.ExprHas, Name: p.name()} },
		"slot":  p.slot,
		"all":   inside(api.ExprAll),
		"any":   inside(api.ExprAny),
		"at":    p.count,
	}
}

func (p *parser) limit() api.Expr {
	e := api.Expr{Op: api.ExprLimit, Name: p.name(), N: p.Number()}
	if p.Took(api.TokenName, "plus") {
		e.Extra = p.Number()
	}
	return e
}

func (p *parser) slot() api.Expr {
	e := api.Expr{Op: api.ExprFitted, Name: p.name()}
	p.Word("is")
	e.Value = p.name()
	return e
}

func (p *parser) count() api.Expr {
	p.Word("least")
	if isZero(p.Expect(api.TokenNumber)) {
		p.Fail(api.ErrRange)
	}
	n := p.Number()
	return api.Expr{Op: api.ExprCount, N: n, Name: p.name()}
}

// isZero reports whether digits stand for 0.
func isZero(digits string) bool { return strings.Trim(digits, "0") == "" }
