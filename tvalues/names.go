package tvalues

import (
	"inarch/api"
	"inarch/tkeys"
)

// name that a table's node has for another one.
type name struct {
	table int
	word  string
}

// lead from a table, around whose values so many lists and tables stand, over those that a key's dots ask for; the next node is what its last word names.
func (r *reader) lead(table, around int, key tkeys.Key) bool {
	last := len(key.Words) - 1
	for i, word := range key.Words[:last] {
		sub, there := r.named[name{table, word}]
		switch {
		case !there && around+i >= api.MaxDepth:
			return r.fail(api.CoDepth, key.Spans[i].From)
		case !there:
			sub = r.hang(table, word, key.Spans[i])
			r.Nodes = append(r.Nodes, api.Node{Kind: api.VkMap, Span: api.Span{From: -1, To: -1}})
		case r.Nodes[sub].Span.From >= 0: // it stands there itself: no key's dots made it
			return r.fail(api.CoDup, key.Spans[i].From)
		}
		table = sub
	}
	if _, there := r.named[name{table, key.Words[last]}]; there {
		return r.fail(api.CoDup, key.Spans[last].From)
	}
	r.hang(table, key.Words[last], key.Spans[last])
	return true
}

// hang the next node into a table, by a word.
func (r *reader) hang(table int, word string, spot api.Span) (node int) {
	node = len(r.Nodes)
	r.named[name{table, word}] = node
	n := &r.Nodes[table]
	n.Keys = append(n.Keys, word)
	n.Spots = append(n.Spots, spot)
	n.Subs = append(n.Subs, node)
	return node
}
