package decimals

import (
	"strconv"

	"inarch/api"
)

// form is a value's normal form in parts, so that two of them are one just if they are ==. Nought has the digits 0, and nothing else.
type form struct {
	minus    bool
	digits   string
	exponent int
}

// read a number's text.
func read(s string) (form, api.Code) {
	w, ok := split(s)
	if !ok {
		return form{}, api.CoSyntax
	}
	e, ok := w.exponent()
	if !ok {
		return form{}, api.CoExponent
	}
	n := w.form(e)
	if n.exponent > api.MaxExponent || n.exponent < -api.MaxExponent {
		return form{}, api.CoExponent
	}
	return n, api.CoOK
}

// known has the parts of a normal form that Read may answer; such a form is the one text of its value that reads as itself.
func known(text string) (form, bool) {
	n, code := read(text)
	if code != api.CoOK || n.text() != text {
		return form{}, false
	}
	return n, true
}

func (n form) nought() bool { return n == form{digits: "0"} }

func (n form) text() string {
	if n.nought() {
		return "0"
	}
	sign := ""
	if n.minus {
		sign = "-"
	}
	return sign + n.digits + "e" + strconv.Itoa(n.exponent)
}

// nearer tells if n is nearer to nought than m, which is another one.
func (n form) nearer(m form) bool {
	if n.nought() || m.nought() {
		return n.nought()
	}
	if n.top() != m.top() {
		return n.top() < m.top()
	}
	// No digits end with 0: where one's digits go on with the other's digits used up, they add to its value.
	return n.digits < m.digits
}

// top tells how many digits stand ahead of the point, if all are written out; below 0: how many noughts behind it.
func (n form) top() int { return len(n.digits) + n.exponent }
