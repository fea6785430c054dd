package catalog

import (
	"strings"

	"bogie/api"
	"bogie/lexer"
	"bogie/reader"
)

// Text returns the text of a catalog.
func Text(c api.Catalog) (string, api.Errno) {
	if !Valid(c) {
		return "", api.ErrArg
	}
	var b strings.Builder
	for _, k := range c.Kinds {
		b.WriteString(keyword(k.Vehicle) + " " + k.Name)
		for i, s := range k.Slots {
			if i == 0 {
				b.WriteString(" (")
			} else {
				b.WriteString("; ")
			}
			b.WriteString(s.Name + ": " + strings.Join(s.Kinds[:s.Normal], " "))
			if s.Normal < len(s.Kinds) {
				b.WriteString(" + " + strings.Join(s.Kinds[s.Normal:], " "))
			}
		}
		if len(k.Slots) > 0 {
			b.WriteString(")")
		}
		b.WriteString(";\n")
	}
	// The tokens of the text are right; it can only be too long, or have too many of them.
	if _, err, _ := lexer.Lex(b.String()); err != api.OK {
		return "", api.ErrLimit
	}
	return b.String(), api.OK
}

func keyword(vehicle bool) string {
	if vehicle {
		return "vehicle"
	}
	return "kind"
}

// Parse returns the catalog of a text.
func Parse(s string) (api.Catalog, api.Errno, int) {
	return reader.Read(s, func(r *reader.Reader) api.Catalog {
		p := &parser{Reader: r, vehicles: map[string]bool{}}
		return api.Catalog{Kinds: list(r.More, p.kind)}
	})
}

// parser reads catalogs; vehicles has the kinds so far, by their names.
type parser struct {
	*reader.Reader
	vehicles map[string]bool
}

// list reads parts of a list as long as there are more.
func list[T any](more func() bool, read func() T) []T {
	var l []T
	for more() {
		l = append(l, read())
	}
	return l
}

// first is a condition that holds once, and then if another one does.
func first(more func() bool) func() bool {
	begun := false
	return func() bool {
		if !begun {
			begun = true
			return true
		}
		return more()
	}
}

func (p *parser) kind() api.Kind {
	k := api.Kind{Vehicle: p.Is(api.TokenName, keyword(true))}
	p.Word(keyword(k.Vehicle))
	k.Name = p.Expect(api.TokenName)
	_, known := p.vehicles[k.Name]
	p.fresh(len(p.vehicles) == api.MaxKinds, known)
	if p.Took(api.TokenSymbol, "(") {
		names := map[string]bool{}
		k.Slots = list(first(func() bool { return p.Took(api.TokenSymbol, ";") }), func() api.Slot { return p.slot(names) })
		p.Symbol(")")
	}
	p.Symbol(";")
	p.vehicles[k.Name] = k.Vehicle
	return k
}

// fresh takes a name that may not be one too many, and was not there before.
func (p *parser) fresh(full, known bool) {
	if full {
		p.Fail(api.ErrLimit)
	}
	if known {
		p.Fail(api.ErrTwice)
	}
	p.Skip()
}

// slot reads a slot; names has those of the slots before.
func (p *parser) slot(names map[string]bool) api.Slot {
	s := api.Slot{Name: p.Expect(api.TokenName)}
	p.fresh(len(names) == api.MaxSlots, names[s.Name])
	names[s.Name] = true
	p.Symbol(":")
	there := map[string]bool{}
	name := func() bool { return p.Next().Kind == api.TokenName }
	taken := func() string { return p.taken(there) }
	s.Kinds = list(first(name), taken)
	s.Normal = len(s.Kinds)
	if p.Took(api.TokenSymbol, "+") {
		s.Kinds = append(s.Kinds, list(first(name), taken)...)
	}
	return s
}

// taken reads a kind that a slot takes; there has the ones before.
func (p *parser) taken(there map[string]bool) string {
	name := p.Expect(api.TokenName)
	vehicle, known := p.vehicles[name]
	switch {
	case there[name]:
		p.Fail(api.ErrTwice)
	case !known:
		p.Fail(api.ErrNone)
	case vehicle:
		p.Fail(api.ErrKind)
	}
	there[name] = true
	p.Skip()
	return name
}
