package quotes

import (
	"inarch/api"
	"inarch/utf8s"
)

// reader goes on through a string, unit by unit.
type reader struct {
	s    string
	at   int    // all ahead of it is read; behind a fault: where that is
	text []byte // what the units tell
}

// whole reads all of the string, which has to end where the bytes do.
func (r *reader) whole() api.Code {
	if !r.take('"') {
		return api.CoSyntax
	}
unit:
	if r.stretch() {
		goto unit
	}
	if r.take('\\') {
		if code := r.escape(); code != api.CoOK {
			return code
		}
		goto unit
	}
	if !r.take('"') || r.at < len(r.s) {
		return api.CoSyntax
	}
	return api.CoOK
}

// take a byte, if it stands here.
func (r *reader) take(c byte) bool {
	if r.at == len(r.s) || r.s[r.at] != c {
		return false
	}
	r.at++
	return true
}

// stretch reads the plain bytes that stand here; false: there are none.
func (r *reader) stretch() bool {
	from := r.at
	for r.at < len(r.s) && plain(r.s[r.at]) {
		r.at++
	}
	r.text = append(r.text, r.s[from:r.at]...)
	return r.at > from
}

// escape reads what stands behind a `\`.
func (r *reader) escape() api.Code {
	if r.take('u') {
		return r.numbered()
	}
	for _, e := range shorts {
		if r.take(e.letter) {
			r.text = append(r.text, e.tells)
			return api.CoOK
		}
	}
	return api.CoSyntax
}

// numbered reads the digits behind a `\u`; behind a high one's the low one too.
func (r *reader) numbered() api.Code {
	from := r.at - len(`\u`)
	n, ok := r.number()
	if !ok {
		return api.CoSyntax
	}
	if high(n) {
		if m, paired := r.lowOne(); paired {
			n = 65536 + 1024*(n-firstHigh) + m - firstLow
		}
	}
	if high(n) || low(n) {
		// Not paired; and what may be wrong behind it is at a greater place.
		r.at = from
		return api.CoSurrogate
	}
	r.text = append(r.text, utf8s.Put(n)...)
	return api.CoOK
}

// lowOne reads a low one, if it stands here whole.
func (r *reader) lowOne() (n int, ok bool) {
	if !r.take('\\') || !r.take('u') {
		return 0, false
	}
	n, ok = r.number()
	return n, ok && low(n)
}

// number reads four digits of base 16.
func (r *reader) number() (n int, ok bool) {
	for range 4 {
		if r.at == len(r.s) {
			return 0, false
		}
		d := digit(r.s[r.at])
		if d < 0 {
			return 0, false
		}
		n = 16*n + d
		r.at++
	}
	return n, true
}
