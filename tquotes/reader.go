package tquotes

import (
	"strings"

	"inarch/utf8s"
)

// reader goes on through a string: what all kinds have in common.
type reader struct {
	s    string
	at   int    // all ahead of it is read
	mark byte   // of which the string's ends are made
	text []byte // what is told
}

func (r *reader) place() int { return r.at }

func (r *reader) told() string { return string(r.text) }

// open reads the mark at which the string begins.
func (r *reader) open() { r.take(r.mark) }

// take a byte, if it stands here.
func (r *reader) take(c byte) bool {
	if r.at == len(r.s) || r.s[r.at] != c {
		return false
	}
	r.at++
	return true
}

// on tells if one of these bytes stands here.
func (r *reader) on(bytes string) bool {
	return r.at < len(r.s) && strings.IndexByte(bytes, r.s[r.at]) >= 0
}

// skip those of these bytes that stand here.
func (r *reader) skip(bytes string) {
	for r.on(bytes) {
		r.at++
	}
}

// stretch reads the plain bytes that stand here, up to a mark or the other byte; false: there are none.
func (r *reader) stretch(other byte) bool {
	from := r.at
	for r.at < len(r.s) && plain(r.s[r.at]) && r.s[r.at] != r.mark && r.s[r.at] != other {
		r.at++
	}
	r.text = append(r.text, r.s[from:r.at]...)
	return r.at > from
}

// escape reads what stands behind its `\`.
func (r *reader) escape() bool {
	if r.take('u') {
		return r.numbered(4)
	}
	if r.take('U') {
		return r.numbered(8)
	}
	for _, e := range shorts {
		if r.take(e.letter) {
			r.text = append(r.text, e.tells)
			return true
		}
	}
	return false
}

// numbered reads so many digits, of a rune's number.
func (r *reader) numbered(digits int) bool {
	from, n := r.at, 0
	for range digits {
		if r.at == len(r.s) || digit(r.s[r.at]) < 0 {
			return false
		}
		n = 16*n + digit(r.s[r.at])
		r.at++
	}
	if !isRune(n) {
		r.at = from
		return false
	}
	r.text = append(r.text, utf8s.Put(n)...)
	return true
}

// long is a reader of long strings.
type long struct{ reader }

// open reads the three marks, and the line's end that does not count.
func (l *long) open() {
	for range 3 {
		l.reader.open()
	}
	if strings.HasPrefix(l.s[l.at:], "\n") || strings.HasPrefix(l.s[l.at:], "\r\n") {
		l.lineEnd()
	}
}

// ended reads the marks that stand here; true: the last three are the end.
func (l *long) ended() bool {
	marks := 0
	for marks < 5 && l.take(l.mark) {
		marks++
	}
	ended := marks >= 3
	if ended {
		marks -= 3
	}
	for range marks {
		l.text = append(l.text, l.mark)
	}
	return ended
}

// line reads a line's end that is told.
func (l *long) line() bool {
	from := l.at
	ok := l.lineEnd()
	if ok {
		l.text = append(l.text, l.s[from:l.at]...)
	}
	return ok
}

// lineEnd reads one.
func (l *long) lineEnd() bool {
	l.take('\r')
	return l.take('\n')
}
