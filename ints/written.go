package ints

import "math"

// prefix of an integer's text: the two bytes ahead of its digits.
type prefix struct{ nought, letter byte }

// radix is a base that is told by a prefix.
type radix struct {
	prefix prefix
	base   int
}

var radixes = [...]radix{
	{prefix{'0', 'x'}, 16},
	{prefix{'0', 'o'}, 8},
	{prefix{'0', 'b'}, 2},
}

// written is an integer's text in parts.
type written struct {
	minus  bool
	base   int
	digits string // with `_` between them
}

// split a text; ok: it is an integer's.
func split(s string) (w written, ok bool) {
	w, ok = prefixed(s)
	if !ok {
		w, ok = signed(s)
	}
	if !ok || !w.spaced() {
		return written{}, false
	}
	return w, true
}

// prefixed is what begins with a prefix; ok: it does.
func prefixed(s string) (w written, ok bool) {
	if len(s) < 2 {
		return written{}, false
	}
	for _, r := range radixes {
		if r.prefix == (prefix{s[0], s[1]}) {
			return written{base: r.base, digits: s[2:]}, true
		}
	}
	return written{}, false
}

// signed is what has no prefix; ok: there is no nought ahead that isn't all of it.
func signed(s string) (w written, ok bool) {
	w = written{base: 10, digits: s}
	if s != "" && (s[0] == '+' || s[0] == '-') {
		w.minus = s[0] == '-'
		w.digits = s[1:]
	}
	if len(w.digits) > 1 && w.digits[0] == '0' {
		return written{}, false
	}
	return w, true
}

// spaced tells if there are digits of the base, with one `_` between two of them at most.
func (w written) spaced() bool {
	// Begun as if one stood ahead, so that none may stand first, and nothing is no digits.
	last := byte('_')
	for i := range len(w.digits) {
		c := w.digits[i]
		if c == '_' && last == '_' || c != '_' && !w.has(c) {
			return false
		}
		last = c
	}
	return last != '_'
}

// has tells if a byte is a digit of the base.
func (w written) has(c byte) bool {
	d := digit(c)
	return 0 <= d && d < w.base
}

// value of all; ok: it is within 64 bits.
func (w written) value() (n int64, ok bool) {
	m, ok := w.amount()
	if !ok {
		return 0, false
	}
	if w.minus {
		// The least value's amount is one more than an int64 has: it wraps round to that value, whose negative is itself.
		return -int64(m), true
	}
	return int64(m), true
}

// amount is the value without its sign; ok: with it, it is within 64 bits. There may be more digits than 64 bits can hold, so each one is looked at as it comes.
func (w written) amount() (m uint64, ok bool) {
	most, base := uint64(math.MaxInt64), uint64(w.base)
	if w.minus {
		most++
	}
	for i := range len(w.digits) {
		if w.digits[i] == '_' {
			continue
		}
		d := uint64(digit(w.digits[i]))
		if m > (most-d)/base {
			return 0, false
		}
		m = m*base + d
	}
	return m, true
}

// digit of base 16, of either case; -1: it is none.
func digit(c byte) int {
	switch {
	case '0' <= c && c <= '9':
		return int(c - '0')
	case 'a' <= c && c <= 'f':
		return int(c-'a') + 10
	case 'A' <= c && c <= 'F':
		return int(c-'A') + 10
	}
	return -1
}
