package patterns

import (
	"strconv"
	"strings"

	"inarch/api"
)

const digits = "0123456789abcdef"

// plain tells if a byte may stand for itself in a word.
func plain(c byte) bool {
	return c > 32 && c != 127 && strings.IndexByte("%/[]=*", c) < 0
}

// reader goes on through a pattern's text. What it can't read it leaves at the byte that is wrong.
type reader struct {
	s  string
	at int // all ahead of it is read
}

// take a byte, if it stands here.
func (r *reader) take(c byte) bool {
	if r.at == len(r.s) || r.s[r.at] != c {
		return false
	}
	r.at++
	return true
}

// pattern reads all of the text.
func (r *reader) pattern() ([]step, bool) {
	if r.take('.') {
		return nil, r.at == len(r.s)
	}
	var l []step
	for len(l) == 0 || r.at < len(r.s) {
		if len(l) == api.MaxSteps {
			return nil, false
		}
		one, ok := r.step()
		if !ok {
			return nil, false
		}
		l = append(l, one)
	}
	return l, true
}

func (r *reader) step() (step, bool) {
	switch {
	case r.take('/'):
		return r.key()
	case r.take('['):
		return r.element()
	}
	return step{}, false
}

// key reads on behind a `/`.
func (r *reader) key() (step, bool) {
	if r.take('*') {
		if r.take('*') {
			return anySteps(), true
		}
		return anyKey(), true
	}
	key, ok := r.word()
	return theKey(key), ok
}

// element reads on behind a `[`.
func (r *reader) element() (step, bool) {
	if r.take('*') {
		return anyElement(), r.take(']')
	}
	field, ok := r.word()
	if !ok || !r.take('=') {
		return step{}, false
	}
	if r.take('*') {
		return anyID(field), r.take(']')
	}
	id, ok := r.word()
	return theID(field, id), ok && r.take(']')
}

// word reads all that may be of a word.
func (r *reader) word() (string, bool) {
	var b []byte
	for r.at < len(r.s) {
		c := r.s[r.at]
		if c != '%' && !plain(c) {
			break
		}
		r.at++
		if c == '%' {
			var ok bool
			if c, ok = r.number(); !ok {
				return "", false
			}
		}
		b = append(b, c)
	}
	return string(b), true
}

// number reads two digits of base 16.
func (r *reader) number() (byte, bool) {
	told := byte(0)
	for range 2 {
		n, err := strconv.ParseUint(r.s[r.at:min(r.at+1, len(r.s))], 16, 8)
		if err != nil {
			return 0, false
		}
		told = told<<4 | byte(n)
		r.at++
	}
	return told, true
}
