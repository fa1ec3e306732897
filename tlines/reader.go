package tlines

import (
	"strings"

	"inarch/api"
	"inarch/tkeys"
	"inarch/tvalues"
)

// reader of an item goes on up to the first fault.
type reader struct {
	s     string
	at    int // what stands ahead of it is read
	item  Item
	fault api.Fault
}

func (r *reader) read() bool {
	r.blanks()
	r.item.Kind = kindOf(r.s[r.at:])
	switch r.item.Kind {
	case ItPair:
		return r.pair() && r.lineEnd()
	case ItTable:
		return r.header("[", "]") && r.lineEnd()
	case ItTables:
		return r.header("[[", "]]") && r.lineEnd()
	}
	return r.lineEnd()
}

// kindOf the item that goes on so behind its blanks: no two kinds begin alike.
func kindOf(rest string) Kind {
	switch {
	case rest == "" || strings.IndexByte("#\r\n", rest[0]) >= 0:
		return ItBlank
	case strings.HasPrefix(rest, "[["):
		return ItTables
	case rest[0] == '[':
		return ItTable
	}
	return ItPair
}

func (r *reader) pair() bool {
	if !r.key() || !r.marks("=") {
		return false
	}
	r.blanks()
	tree, end, fault := tvalues.Read(r.s, r.at, 0)
	if fault.Code != api.CoOK {
		return r.fail(fault.Code, fault.At)
	}
	r.item.Value = api.Span{From: r.at, To: end}
	r.item.Tree = tree
	r.at = end
	return true
}

func (r *reader) header(first, last string) bool {
	return r.marks(first) && r.key() && r.marks(last)
}

// key with the blanks on both sides of it.
func (r *reader) key() bool {
	r.blanks()
	key, end, fault := tkeys.Read(r.s, r.at)
	if fault.Code != api.CoOK {
		return r.fail(fault.Code, fault.At)
	}
	r.item.Key = key
	r.at = end
	r.blanks()
	return true
}

// lineEnd, or the document's, with what may stand ahead of it.
func (r *reader) lineEnd() bool {
	r.blanks()
	r.at, _ = tvalues.Comment(r.s, r.at) // it has no fault: a byte that can't be in a comment ends it
	switch {
	case r.at == len(r.s):
		return true
	case r.s[r.at] == '\r':
		return r.marks("\r\n")
	}
	return r.marks("\n")
}

// marks that must stand here, all of them.
func (r *reader) marks(marks string) bool {
	for i := range len(marks) {
		if r.at == len(r.s) || r.s[r.at] != marks[i] {
			return r.fail(api.CoSyntax, r.at)
		}
		r.at++
	}
	return true
}

func (r *reader) blanks() { r.at = tkeys.Blanks(r.s, r.at) }

func (r *reader) fail(code api.Code, at int) bool {
	r.fault = api.Fault{Code: code, At: at}
	return false
}
