package floats

import (
	"strings"

	"inarch/api"
	"inarch/ints"
)

// written is a float's text that tells a decimal, in parts; with `_` between digits.
type written struct {
	minus    string // `-`, or nothing
	whole    string
	part     string // with its point; or nothing
	exponent string // with its letter, and its sign; or nothing
}

// split a text; ok: it is a float's.
func split(s string) (w written, ok bool) {
	w.minus, s = signed(s)
	s, w.exponent = cut(s, "eE")
	w.whole, w.part = cut(s, ".")
	if !w.sound() {
		return written{}, false
	}
	return w, true
}

// signed cuts a sign off; minus is `-` if that is it, and else nothing, as decimals have it.
func signed(s string) (minus, rest string) {
	if rest, ok := strings.CutPrefix(s, "-"); ok {
		return "-", rest
	}
	return "", strings.TrimPrefix(s, "+")
}

// cut a text ahead of the first one of some bytes.
func cut(s, marks string) (ahead, rest string) {
	if at := strings.IndexAny(s, marks); at >= 0 {
		return s[:at], s[at:]
	}
	return s, ""
}

// sound tells if each part is of its form, and one is there that makes it no integer's text.
func (w written) sound() bool {
	if w.part == "" && w.exponent == "" {
		return false
	}
	if w.part != "" && !spaced(w.part[1:]) {
		return false
	}
	if w.exponent != "" {
		if _, power := signed(w.exponent[1:]); !spaced(power) {
			return false
		}
	}
	return integer(w.whole)
}

// integer tells if digits are an integer's text of base 10, within 64 bits or not. The sign ahead rules out the other bases, which have none.
func integer(digits string) bool {
	_, code := ints.Read("+" + digits)
	return code == api.CoOK || code == api.CoInt
}

// spaced tells if a text is digits, with one `_` between two of them at most.
func spaced(s string) bool {
	// Begun as if one stood ahead, so that none may stand first, and nothing is no digits.
	last := byte('_')
	for i := range len(s) {
		c := s[i]
		if c == '_' && last == '_' || c != '_' && (c < '0' || c > '9') {
			return false
		}
		last = c
	}
	return last != '_'
}

// number is the text of the same decimal as JSON has it.
func (w written) number() string { return together(w.minus, w.whole, w.part, w.exponent) }

// together puts parts together, without any `_`.
func together(parts ...string) string {
	return strings.ReplaceAll(strings.Join(parts, ""), "_", "")
}
