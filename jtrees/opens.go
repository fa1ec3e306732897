package jtrees

// open is a list or a map that has begun, and has no end yet.
type open interface {
	node() int // its place in the tree
}

type list struct{ at int }

type dict struct {
	at    int
	known map[string]struct{} // its keys' runes
}

func (l list) node() int { return l.at }

func (d dict) node() int { return d.at }

// wants is a set of what a token may be.
type wants uint8

const (
	aValue wants = 1 << iota
	aKey
	aColon
	aComma
	anEnd
	nothing wants = 0
)

// within tells what an element, or an entry, of what is open begins with, and which mark is the end.
func within(o open) (first wants, end byte) {
	switch o.(type) {
	case list:
		return aValue, ']'
	case dict:
		return aKey, '}'
	}
	return nothing, 0
}
