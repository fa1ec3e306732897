package tvalues

import (
	"slices"

	"inarch/api"
	"inarch/tkeys"
	"inarch/tquotes"
)

// reader of a value embeds the tree that it fills, and goes on up to the first fault.
type reader struct {
	api.Tree
	s     string
	at    int          // what stands ahead of it is read
	named map[name]int // which node a table has by a word
	fault api.Fault
}

// way to read the value at the reader's place, around which so many lists and tables stand. The next node is the value's.
type way func(r *reader, around int) bool

// wayBy the first byte of a value.
func wayBy(first byte) way {
	switch first {
	case '"', '\'':
		return (*reader).quoted
	case '[':
		return (*reader).list
	case '{':
		return (*reader).table
	}
	return (*reader).bare
}

func (r *reader) value(around int) bool { return wayBy(r.next())(r, around) }

func (r *reader) quoted(int) bool {
	text, end, fault := tquotes.Read(r.s, r.at)
	if fault.Code != api.CoOK {
		return r.fail(fault.Code, fault.At)
	}
	r.add(api.VkStr, text, end)
	return true
}

// bare values begin with no mark: date-times, and tokens.
func (r *reader) bare(int) bool {
	kind, text, many, code := tell(r.s[r.at:])
	if code != api.CoOK {
		return r.fail(code, r.at)
	}
	r.add(kind, text, r.at+many)
	return true
}

func (r *reader) list(around int) bool {
	list, ok := r.begin(api.VkList, around)
	if !ok || !r.gap() {
		return false
	}
	for r.next() != ']' {
		r.Nodes[list].Subs = append(r.Nodes[list].Subs, len(r.Nodes))
		if !r.value(around+1) || !r.gap() {
			return false
		}
		if !r.takes(',') {
			break
		}
		if !r.gap() {
			return false
		}
	}
	return r.end(list, ']')
}

func (r *reader) table(around int) bool {
	table, ok := r.begin(api.VkMap, around)
	if !ok {
		return false
	}
	r.blanks()
	if r.next() == '}' {
		return r.end(table, '}')
	}
	for more := true; more; more = r.takes(',') {
		r.blanks()
		if !r.pair(table, around+1) {
			return false
		}
		r.blanks()
	}
	return r.end(table, '}')
}

func (r *reader) pair(table, around int) bool {
	key, end, fault := tkeys.Read(r.s, r.at)
	if fault.Code != api.CoOK {
		return r.fail(fault.Code, fault.At)
	}
	if !r.lead(table, around, key) {
		return false
	}
	r.at = end
	r.blanks()
	if !r.takes('=') {
		return r.fail(api.CoSyntax, r.at)
	}
	r.blanks()
	return r.value(around + len(key.Words) - 1)
}

// begin a list, or a table, by its first mark.
func (r *reader) begin(kind api.Kind, around int) (node int, ok bool) {
	if around >= api.MaxDepth {
		return 0, r.fail(api.CoDepth, r.at)
	}
	return r.add(kind, "", r.at+1), true
}

// end a list, or a table, by its last mark.
func (r *reader) end(node int, mark byte) bool {
	if !r.takes(mark) {
		return r.fail(api.CoSyntax, r.at)
	}
	r.Nodes[node].Span.To = r.at
	return true
}

// add a value's node, as far as it is read.
func (r *reader) add(kind api.Kind, text string, end int) (node int) {
	r.Nodes = append(r.Nodes, api.Node{Kind: kind, Text: text, Span: api.Span{From: r.at, To: end}})
	r.at = end
	return len(r.Nodes) - 1
}

func (r *reader) fail(code api.Code, at int) bool {
	r.fault = api.Fault{Code: code, At: at}
	return false
}

// next byte; 0, by which no value goes on, if there is none.
func (r *reader) next() byte {
	if r.at == len(r.s) {
		return 0
	}
	return r.s[r.at]
}

func (r *reader) takes(mark byte) bool {
	if r.next() != mark {
		return false
	}
	r.at++
	return true
}

func (r *reader) blanks() { r.at = tkeys.Blanks(r.s, r.at) }

func (r *reader) gap() bool {
	end, fault := Gap(r.s, r.at)
	if fault.Code != api.CoOK {
		return r.fail(fault.Code, fault.At)
	}
	r.at = end
	return true
}

// clip what the tree's lists have in their room behind.
func (r *reader) clip() {
	r.Nodes = slices.Clip(r.Nodes)
	for i := range r.Nodes {
		n := &r.Nodes[i]
		n.Keys, n.Spots, n.Subs = slices.Clip(n.Keys), slices.Clip(n.Spots), slices.Clip(n.Subs)
	}
}
