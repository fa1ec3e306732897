package trees

import (
	"iter"

	"inarch/api"
	"inarch/values"
)

// reached are the nodes to which Root leads over Subs, each ahead of those in it, as often as there are ways to it; beside each, in how many it is on that way.
// What is no node is told, too: who goes over them ends there, and where they are deeper than may be.
func reached(t api.Tree) iter.Seq2[int, int] {
	return func(yield func(node, in int) bool) {
		from(t, t.Root, 0, yield)
	}
}

// from a node on.
func from(t api.Tree, node, in int, yield func(node, in int) bool) bool {
	if !yield(node, in) {
		return false
	}
	for _, sub := range t.Nodes[node].Subs {
		if !from(t, sub, in+1, yield) {
			return false
		}
	}
	return true
}

// has a tree such a node?
func has(t api.Tree, node int) bool { return node >= 0 && node < len(t.Nodes) }

// mayNode: may a node be, within so many others, whatever those in it are?
func mayNode(n api.Node, in int) bool {
	return len(n.Spots) == len(n.Keys) && mayStand(n.Kind, in) && values.May(outer(n))
}

// mayStand: may one of a kind stand within so many lists and maps?
func mayStand(kind api.Kind, in int) bool {
	return in < api.MaxDepth || kind != api.VkList && kind != api.VkMap
}

// outer is a node's value, with nulls for what is in it.
func outer(n api.Node) api.Value {
	return api.Value{Kind: n.Kind, Text: n.Text, List: make([]api.Value, len(n.Subs)), Keys: n.Keys}
}
