package trees

import (
	"strings"

	"inarch/api"
	"inarch/copies"
)

// value of a node, of a tree that may be.
func value(t api.Tree, node int) api.Value {
	n := t.Nodes[node]
	return api.Value{
		Kind: n.Kind,
		Text: strings.Clone(n.Text),
		List: copies.Each(n.Subs, func(sub int) api.Value { return value(t, sub) }),
		Keys: copies.Each(n.Keys, strings.Clone),
	}
}

// grow nodes by those of a value that may be, one ahead of those in it.
func grow(nodes []api.Node, v api.Value) []api.Node {
	node := len(nodes)
	nodes = append(nodes, alone(v))
	for i, part := range v.List {
		nodes[node].Subs[i] = len(nodes)
		nodes = grow(nodes, part)
	}
	return nodes
}

// alone is a value's node that leads nowhere so far.
func alone(v api.Value) api.Node {
	nowhere := api.Span{From: -1, To: -1}
	return api.Node{
		Kind:  v.Kind,
		Text:  strings.Clone(v.Text),
		Keys:  copies.Each(v.Keys, strings.Clone),
		Spots: copies.Each(v.Keys, func(string) api.Span { return nowhere }),
		Subs:  copies.Each(v.List, func(api.Value) int { return 0 }),
		Span:  nowhere,
	}
}
