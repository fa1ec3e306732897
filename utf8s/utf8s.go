// Package utf8s is layer 1: are bytes runes (UTF-8), and where does a byte stand, by lines? See doc/01-utf8s.md.
package utf8s

import "bytes"

// Check: are they? (P1.1)
func Check(b []byte) (at int, ok bool) {
	for at < len(b) {
		n := long(b[at:])
		if n == 0 {
			return at, false
		}
		at += n
	}
	return 0, true
}

// Place of a byte. (P1.2)
func Place(b []byte, at int) (line, column int) {
	if at < 0 || at > len(b) {
		return 0, 0
	}
	line = 1 + bytes.Count(b[:at], []byte{'\n'})
	column = 1
	// The walk has all of b to look at: a rune that goes on behind the place has begun ahead of it.
	for i := 1 + bytes.LastIndexByte(b[:at], '\n'); i < at; i += max(1, long(b[i:])) {
		column++
	}
	return line, column
}

// Runes up to the first wrong byte. (P1.3)
func Runes(b []byte) []int {
	if at, ok := Check(b); !ok {
		b = b[:at]
	}
	l := make([]int, 0, count(b))
	for len(b) > 0 {
		n := long(b)
		l = append(l, number(b[:n]))
		b = b[n:]
	}
	return l
}

// Put runes. (P1.3)
func Put(runes ...int) []byte {
	size := 0
	for _, r := range runes {
		size += 1 + more(known(r))
	}
	b := make([]byte, 0, size)
	for _, r := range runes {
		b = put(b, known(r))
	}
	return b
}
