package proof

import (
	"strconv"
	"strings"

	"bogie/api"
)

// Text returns the text of a certificate.
func Text(p api.Step) (string, api.Errno) {
	if !valid(p) {
		return "", api.ErrArg
	}
	var b strings.Builder
	var write func(p api.Step)
	write = func(p api.Step) {
		switch p.Op {
		case api.StepFalse:
			b.WriteByte('f')
		case api.StepHolds:
			b.WriteByte('h')
		default:
			b.WriteString(strconv.Itoa(p.Report) + "(")
			for _, kid := range p.Kids {
				write(kid)
			}
			b.WriteByte(')')
		}
	}
	write(p)
	return b.String(), api.OK
}

// Parse returns the certificate of a text.
func Parse(s string) (api.Step, api.Errno) {
	if len(s) > api.MaxSource {
		return api.Step{}, api.ErrLimit
	}
	p, ok := read(s)
	// Every text but the one of this certificate is refused.
	if text, err := Text(p); !ok || err != api.OK || text != s {
		return api.Step{}, api.ErrSyntax
	}
	return p, api.OK
}

// read reads a certificate; false if a text is surely none.
func read(s string) (api.Step, bool) {
	open := []api.Step{{}} // splits that are not closed yet, behind one that has the whole as its kid
reading:
	for len(open[0].Kids) == 0 {
		if s == "" {
			return api.Step{}, false
		}
		var done api.Step
		switch s[0] {
		case 'f':
			done.Op = api.StepFalse
		case 'h':
			done.Op = api.StepHolds
		case ')':
			done = open[len(open)-1]
			open = open[:len(open)-1]
			if len(open) == 0 {
				return api.Step{}, false
			}
		default:
			digits := s[:len(s)-len(strings.TrimLeft(s, "0123456789"))]
			report, err := strconv.Atoi(digits)
			if err != nil || !strings.HasPrefix(s[len(digits):], "(") {
				return api.Step{}, false
			}
			open = append(open, api.Step{Op: api.StepSplit, Report: report})
			s = s[len(digits)+1:]
			continue reading
		}
		s = s[1:]
		last := &open[len(open)-1]
		last.Kids = append(last.Kids, done)
	}
	return open[0].Kids[0], s == ""
}
