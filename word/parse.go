package word

import "cayley/api"

// maxText is the number of bytes that an expression may have.
const maxText = 100000

// Parse returns the value of an expression.
func Parse(k int, text string) (value string, err api.Errno) {
	if k < 1 || k > api.MaxGens {
		return "", api.ErrArg
	}
	defer func() {
		if stop := recover(); stop != nil {
			value, err = "", stop.(api.Errno)
		}
	}()
	open := mostOpen(k, text)
	// A bracket may stand within MaxParse others, so one more than these may be open.
	if len(text) > maxText || open > api.MaxParse+1 {
		return "", api.ErrLimit
	}
	p := parser{rest{text}}
	return p.expression(), api.OK
}

// parser computes the values of a text's parts. The form of the text has been examined, and its depth is bounded.
type parser struct {
	rest
}

// expression takes an expression and returns its value.
func (p *parser) expression() string {
	first := p.factor()
	if p.atEnd() {
		return first // a value within many brackets is not copied for each of them
	}
	product, total := []byte(first), len(first)
	for !p.atEnd() {
		w := p.factor()
		total += len(w)
		mustFit(total)
		product = appendReduced(product, w)
	}
	return string(product)
}

// atEnd reports whether no factor follows.
func (p *parser) atEnd() bool {
	if !p.more() {
		return true
	}
	switch p.text[0] {
	case ')', ',', ']':
		return true
	}
	return false
}

// factor takes a factor and returns its value.
func (p *parser) factor() string {
	w := p.base()
	if !p.skip('^') {
		return w
	}
	n, _ := p.exponent()
	mustFit(max(n, -n) * len(w))
	core, conj := split(w)
	return power(core, conj, n)
}

// base takes a base and returns its value.
func (p *parser) base() string {
	switch b := p.next(); b {
	case '1':
		return ""
	case '(':
		w := p.expression()
		p.next()
		return w
	case '[':
		u := p.expression()
		p.next()
		v := p.expression()
		p.next()
		return commutator(u, v)
	default:
		return string(b)
	}
}

// commutator returns the value of the commutator of two values.
func commutator(u, v string) string {
	mustFit(2 * (len(u) + len(v)))
	product := appendReduced([]byte(u), v)
	product = appendReduced(product, inverse(u))
	return string(appendReduced(product, inverse(v)))
}

// mustFit leaves the parser if a value has too many letters.
func mustFit(letters int) {
	if letters > api.MaxWord {
		panic(api.ErrLimit)
	}
}
