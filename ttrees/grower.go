package ttrees

import (
	"slices"
	"strings"

	"inarch/api"
	"inarch/tkeys"
	"inarch/tlines"
	"inarch/tvalues"
)

// grower of a document's tree embeds it, and goes on item by item, up to the first fault.
type grower struct {
	api.Tree
	s       string
	byName  map[name]int // which node a table has by a word
	sorts   map[int]sort // of tables and lists, by their nodes
	section place
	fault   api.Fault
}

// place of a table, or of a list, in the tree.
type place struct{ node, depth int }

// plant the document's table.
func plant(b []byte) *grower {
	g := &grower{s: string(b), byName: map[name]int{}, sorts: map[int]sort{}}
	g.Root = g.add(api.VkMap)
	g.section = g.ground()
	return g
}

// ground is where the document's table is.
func (g *grower) ground() place { return place{g.Root, 1} }

// grow all of the tree; each item is handed on, with its node.
func (g *grower) grow(each func(it tlines.Item, node int)) bool {
	for at := 0; at < len(g.s); {
		it, node, ok := g.item(at)
		if !ok {
			return false
		}
		each(it, node)
		at = it.Span.To
	}
	return true
}

// item that begins at a place. What it does to the tree may be wrong ahead of what is wrong in itself.
func (g *grower) item(at int) (it tlines.Item, node int, ok bool) {
	if node, ok = g.branch(at); !ok {
		return tlines.Item{}, 0, false
	}
	it, fault := tlines.Read(g.s, at)
	if fault.Code != api.CoOK {
		return tlines.Item{}, 0, g.fail(fault.Code, fault.At)
	}
	return it, node, true
}

// branch that the item at a place has in the tree: its node; -1, if it has none.
func (g *grower) branch(at int) (node int, ok bool) {
	kind, at := begins(g.s, at)
	if kind == tlines.ItBlank {
		return -1, true
	}
	key, end, fault := tkeys.Read(g.s, at)
	if fault.Code != api.CoOK {
		return 0, g.fail(fault.Code, fault.At)
	}
	switch kind {
	case tlines.ItTable:
		return g.table(key)
	case tlines.ItTables:
		return g.tables(key)
	}
	return g.pair(key, end)
}

// begins tells of which kind the item at a place is, by its first bytes, and where its key begins.
func begins(s string, at int) (kind tlines.Kind, key int) {
	at = tkeys.Blanks(s, at)
	switch rest := s[at:]; {
	case strings.HasPrefix(rest, "[["):
		return tlines.ItTables, tkeys.Blanks(s, at+2)
	case strings.HasPrefix(rest, "["):
		return tlines.ItTable, tkeys.Blanks(s, at+1)
	case rest == "" || strings.IndexByte("#\r\n", rest[0]) >= 0:
		return tlines.ItBlank, at
	}
	return tlines.ItPair, at
}

func (g *grower) table(key tkeys.Key) (node int, ok bool) {
	in, ok := g.headerWay(key)
	if !ok {
		return 0, false
	}
	w := lastOf(key)
	table, there := g.find(in, w)
	switch {
	case there && g.sorts[table.node] != sort{how: named}:
		return 0, g.fail(api.CoDup, w.spot.From)
	case there:
		g.sorts[table.node] = sort{how: header}
	case !g.mayBe(table.depth, w):
		return 0, false
	default:
		table = g.put(in, w, api.VkMap, sort{how: header})
	}
	g.section = table
	return table.node, true
}

func (g *grower) tables(key tkeys.Key) (node int, ok bool) {
	in, ok := g.headerWay(key)
	if !ok {
		return 0, false
	}
	w := lastOf(key)
	list, there := g.find(in, w)
	switch {
	case there && g.sorts[list.node] != sort{how: tables}:
		return 0, g.fail(api.CoDup, w.spot.From)
	case !there && !g.mayBe(list.depth+1, w):
		return 0, false
	case !there:
		list = g.put(in, w, api.VkList, sort{how: tables})
	}
	g.section = g.element(list)
	return g.section.node, true
}

// element more of a list of tables.
func (g *grower) element(list place) place {
	node := g.add(api.VkMap) // its sort is never asked for: no word leads to it alone
	subs := &g.Nodes[list.node].Subs
	*subs = append(*subs, node)
	return place{node, list.depth + 1}
}

// pair of a key, that ends at a place, and a value.
func (g *grower) pair(key tkeys.Key, end int) (node int, ok bool) {
	in, ok := g.pairWay(key)
	if !ok {
		return 0, false
	}
	w := lastOf(key)
	if _, there := g.find(in, w); there {
		return 0, g.fail(api.CoDup, w.spot.From)
	}
	at := tkeys.Blanks(g.s, end)
	if !strings.HasPrefix(g.s[at:], "=") {
		return 0, true // tlines tells that it should be there
	}
	tree, _, fault := tvalues.Read(g.s, tkeys.Blanks(g.s, at+1), in.depth)
	if fault.Code != api.CoOK {
		return 0, g.fail(fault.Code, fault.At)
	}
	node = g.graft(tree)
	g.hang(in, w, node)
	return node, true
}

// graft a value's tree, as one that nothing leads to so far.
func (g *grower) graft(value api.Tree) (node int) {
	first := len(g.Nodes)
	for _, n := range value.Nodes {
		for i := range n.Subs {
			n.Subs[i] += first
		}
		g.Nodes = append(g.Nodes, n)
	}
	return first + value.Root
}

// add a node of what has no span.
func (g *grower) add(kind api.Kind) (node int) {
	g.Nodes = append(g.Nodes, api.Node{Kind: kind, Span: api.Span{From: -1, To: -1}})
	return len(g.Nodes) - 1
}

func (g *grower) fail(code api.Code, at int) bool {
	g.fault = api.Fault{Code: code, At: at}
	return false
}

// clip what the tree's lists have in their room behind.
func (g *grower) clip() {
	g.Nodes = slices.Clip(g.Nodes)
	for i := range g.Nodes {
		n := &g.Nodes[i]
		n.Keys, n.Spots, n.Subs = slices.Clip(n.Keys), slices.Clip(n.Spots), slices.Clip(n.Subs)
	}
}
