package decimals

import (
	"strings"

	"inarch/api"
)

const figures = "0123456789"

// written is a number's text in parts.
type written struct {
	minus    bool
	whole    string // ahead of the point
	fraction string // behind it
	below    bool   // the exponent has a minus
	power    string // the exponent's digits
}

// split a text; ok: it is a number's.
func split(s string) (w written, ok bool) {
	take := func(wanted string, most int) string {
		n := 0
		for n < len(s) && n < most && strings.IndexByte(wanted, s[n]) >= 0 {
			n++
		}
		part := s[:n]
		s = s[n:]
		return part
	}
	all := len(s)
	w.minus = take("-", 1) != ""
	w.whole = take(figures, all)
	if w.whole == "" || w.whole[0] == '0' && len(w.whole) > 1 {
		return written{}, false
	}
	if take(".", 1) != "" {
		w.fraction = take(figures, all)
		if w.fraction == "" {
			return written{}, false
		}
	}
	if take("eE", 1) != "" {
		w.below = take("+-", 1) == "-"
		w.power = take(figures, all)
		if w.power == "" {
			return written{}, false
		}
	}
	if s != "" {
		return written{}, false
	}
	return w, true
}

// exponent as it is written; ok: it is within MaxExponent. There may be more digits than an int can hold, so each one is looked at as it comes.
func (w written) exponent() (e int, ok bool) {
	for i := range len(w.power) {
		e = 10*e + int(w.power[i]-'0')
		if e > api.MaxExponent {
			return 0, false
		}
	}
	if w.below {
		return -e, true
	}
	return e, true
}

// form has the value, by what the written exponent is.
func (w written) form(e int) form {
	digits := w.whole + w.fraction
	kept := strings.TrimRight(digits, "0")
	if kept == "" {
		return form{digits: "0"}
	}
	return form{
		minus:    w.minus,
		digits:   strings.TrimLeft(kept, "0"),
		exponent: e - len(w.fraction) + len(digits) - len(kept),
	}
}
