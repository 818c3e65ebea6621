package word

import (
	"strings"

	"cayley/api"
)

// maxDigits is the number of digits that an exponent may have.
const maxDigits = 6

// rest is the part of a text that is left.
type rest struct {
	text string
}

// more skips blanks and reports whether anything else is left.
func (r *rest) more() bool {
	r.text = strings.TrimLeft(r.text, " ")
	return r.text != ""
}

// next skips blanks and takes the next byte, of which there must be one.
func (r *rest) next() byte {
	r.more()
	b := r.text[0]
	r.text = r.text[1:]
	return b
}

// skip takes the given byte if it comes next, behind blanks, and reports whether it did.
func (r *rest) skip(b byte) bool {
	if !r.more() || r.text[0] != b {
		return false
	}
	r.next()
	return true
}

// exponent takes an exponent and reports whether there was one. It is a single token: no blank stands in it, and all digits that follow belong to it.
func (r *rest) exponent() (n int, ok bool) {
	negative := r.skip('-')
	digits := 0
	for digits < len(r.text) && isDigit(r.text[digits]) {
		digits++
	}
	if digits < 1 || digits > maxDigits {
		return 0, false
	}
	for range digits {
		n = 10*n + int(r.next()-'0')
	}
	if negative {
		n = -n
	}
	return n, true
}

func isDigit(b byte) bool {
	return '0' <= b && b <= '9'
}

// outline goes through a text for its form alone: an error of form, wherever it stands, counts ahead of a limit. It does so in a loop, so that no text is too deep for it.
type outline struct {
	rest
	k    int
	at   state  // in the innermost expression
	open []byte // for each open bracket, the byte that has to end the expression in it
	most int    // the most brackets that were open at once
}

// state is a place in an expression.
type state int

const (
	atStart    state = iota // a factor has to follow
	afterBase               // an exponent may follow
	afterPower              // no exponent may follow
)

// mostOpen returns how many brackets are open at once, at most. It panics with ErrForm if the text is no expression in letters of k generators.
func mostOpen(k int, text string) int {
	o := outline{rest: rest{text}, k: k}
	for o.more() {
		o.token(o.next())
	}
	mustHold(len(o.open) == 0 && o.at != atStart)
	return o.most
}

// token goes on by the token that begins with a byte, which has been taken.
func (o *outline) token(b byte) {
	switch b {
	case '(':
		o.begin(')')
	case '[':
		o.begin(',')
	case ')', ',', ']':
		o.end(b)
	case '^':
		mustHold(o.at == afterBase)
		_, ok := o.exponent()
		mustHold(ok)
		o.at = afterPower
	default:
		mustHold(b == '1' || isLetter(o.k, b))
		o.at = afterBase
	}
}

// begin goes into the expression behind an opening bracket, which has to end with a byte.
func (o *outline) begin(end byte) {
	o.open = append(o.open, end)
	o.most = max(o.most, len(o.open))
	o.at = atStart
}

// end leaves the innermost expression, by the byte behind it.
func (o *outline) end(b byte) {
	top := len(o.open) - 1
	mustHold(top >= 0 && o.open[top] == b && o.at != atStart)
	if b == ',' {
		o.open[top] = ']'
		o.at = atStart
		return
	}
	o.open = o.open[:top]
	o.at = afterBase
}

// mustHold leaves the text as none of the form unless a condition holds.
func mustHold(condition bool) {
	if !condition {
		panic(api.ErrForm)
	}
}
