package ttrees

import (
	"inarch/api"
	"inarch/tkeys"
)

// name that a table's node has for another one.
type name struct {
	table int
	word  string
}

// word of a key, and where it stands.
type word struct {
	text string
	spot api.Span
}

func wordOf(key tkeys.Key, i int) word { return word{key.Words[i], key.Spans[i]} }

func lastOf(key tkeys.Key) word { return wordOf(key, len(key.Words)-1) }

// headerWay to the table that a header's last word stands in.
func (g *grower) headerWay(key tkeys.Key) (in place, ok bool) {
	return g.way(g.ground(), key, sort{how: named}, g.intoAny)
}

// pairWay to the table that a pair's last word stands in.
func (g *grower) pairWay(key tkeys.Key) (in place, ok bool) {
	return g.way(g.section, key, g.ofSection(), g.intoDotted)
}

// ofSection are the tables that dotted keys of the section that runs make.
func (g *grower) ofSection() sort { return sort{how: dotted, section: g.section.node} }

// way from a table on, by each word of a key but the last one: where there is nothing, a table of that sort is made; else into tells where it leads, if anywhere.
func (g *grower) way(at place, key tkeys.Key, made sort, into func(sub place) (place, bool)) (in place, ok bool) {
	for i := range len(key.Words) - 1 {
		w := wordOf(key, i)
		sub, there := g.find(at, w)
		switch {
		case there:
			if at, ok = into(sub); !ok {
				return place{}, g.fail(api.CoDup, w.spot.From)
			}
		case !g.mayBe(sub.depth, w):
			return place{}, false
		default:
			at = g.put(at, w, api.VkMap, made)
		}
	}
	return at, true
}

// intoAny table that is not closed; of a list of tables into its last one.
func (g *grower) intoAny(sub place) (place, bool) {
	switch g.sorts[sub.node].how {
	case closed:
		return place{}, false
	case tables:
		elements := g.Nodes[sub.node].Subs
		return place{elements[len(elements)-1], sub.depth + 1}, true
	}
	return sub, true
}

// intoDotted tables of the section that runs alone.
func (g *grower) intoDotted(sub place) (place, bool) {
	return sub, g.sorts[sub.node] == g.ofSection()
}

// find what a table has by a word. If it isn't there, the depth is what it would be at.
func (g *grower) find(in place, w word) (sub place, there bool) {
	node, there := g.byName[name{in.node, w.text}]
	return place{node, in.depth + 1}, there
}

// mayBe: may a word make something so deep?
func (g *grower) mayBe(depth int, w word) bool {
	return depth <= api.MaxDepth || g.fail(api.CoDepth, w.spot.From)
}

// put a table, or a list of tables, of some sort into a table, by a word.
func (g *grower) put(in place, w word, kind api.Kind, s sort) place {
	node := g.add(kind)
	g.sorts[node] = s
	g.hang(in, w, node)
	return place{node, in.depth + 1}
}

// hang a node into a table, by a word.
func (g *grower) hang(in place, w word, node int) {
	g.byName[name{in.node, w.text}] = node
	n := &g.Nodes[in.node]
	n.Keys = append(n.Keys, w.text)
	n.Spots = append(n.Spots, w.spot)
	n.Subs = append(n.Subs, node)
}
