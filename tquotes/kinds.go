package tquotes

import "strings"

// The marks of long strings.
const (
	threeQuotes      = `"""`
	threeApostrophes = `'''`
)

// quoted is a string, of one of the four kinds.
type quoted interface {
	whole() bool  // reads all of it; false: there is none
	place() int   // behind what is read; of none: by which byte that is known
	told() string // by what is read
}

type basic struct{ reader }

type literal struct{ reader }

type longBasic struct{ long }

type longLiteral struct{ long }

// quotedAt is the string that begins at a place; nil: none does.
func quotedAt(s string, at int) quoted {
	rest := s[at:]
	switch {
	case strings.HasPrefix(rest, threeQuotes):
		return &longBasic{long{reader{s: s, at: at, mark: '"'}}}
	case strings.HasPrefix(rest, threeApostrophes):
		return &longLiteral{long{reader{s: s, at: at, mark: '\''}}}
	case strings.HasPrefix(rest, `"`):
		return &basic{reader{s: s, at: at, mark: '"'}}
	case strings.HasPrefix(rest, `'`):
		return &literal{reader{s: s, at: at, mark: '\''}}
	}
	return nil
}

func (b *basic) whole() bool {
	b.open()
	for !b.take(b.mark) {
		if !b.stretch('\\') && !(b.take('\\') && b.escape()) {
			return false
		}
	}
	return true
}

func (l *literal) whole() bool {
	l.open()
	l.stretch(l.mark)
	return l.take(l.mark)
}

func (b *longBasic) whole() bool {
	b.open()
	for !b.ended() {
		if !b.part() {
			return false
		}
	}
	return true
}

// part reads plain bytes, an escape, a fold, or a line's end.
func (b *longBasic) part() bool {
	if b.stretch('\\') {
		return true
	}
	if !b.take('\\') {
		return b.line()
	}
	if b.on(" \t\r\n") {
		return b.fold()
	}
	return b.escape()
}

// fold reads what stands behind its `\`.
func (b *longBasic) fold() bool {
	b.skip(" \t")
	for {
		if !b.lineEnd() {
			return false
		}
		b.skip(" \t")
		if !b.on("\r\n") {
			return true
		}
	}
}

func (l *longLiteral) whole() bool {
	l.open()
	for !l.ended() {
		if !l.stretch(l.mark) && !l.line() {
			return false
		}
	}
	return true
}
