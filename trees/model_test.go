package trees_test

import (
	"slices"
	"strconv"
	"strings"

	"inarch/api"
)

// The chapter's words, case by case, beside the package's own way.

// above tells which node each one is a part of, -1 for Root; false, if it is not just one.
func above(t api.Tree) ([]int, bool) {
	l := make([]int, len(t.Nodes))
	for i := range l {
		l[i] = -1
	}
	for i, n := range t.Nodes {
		for _, sub := range n.Subs {
			if sub < 0 || sub >= len(l) || sub == t.Root || l[sub] != -1 {
				return nil, false
			}
			l[sub] = i
		}
	}
	if t.Root < 0 || t.Root >= len(l) {
		return nil, false
	}
	for i, up := range l {
		if up == -1 && i != t.Root {
			return nil, false
		}
	}
	return l, true
}

// mayBe tells if a tree may be, by climbing up from each node.
func mayBe(t api.Tree) bool {
	ups, ok := above(t)
	if !ok {
		return false
	}
	for i, n := range t.Nodes {
		deep := 0
		if n.Kind == api.VkList || n.Kind == api.VkMap {
			deep = 1
		}
		steps := 0
		for up := ups[i]; up != -1; up = ups[up] {
			deep++
			if steps++; steps > len(ups) {
				return false // it goes round: Root isn't above it
			}
		}
		if deep > api.MaxDepth || !mayBeNode(n) {
			return false
		}
	}
	return true
}

func mayBeNode(n api.Node) bool {
	none := len(n.Subs) == 0 && len(n.Keys) == 0 && len(n.Spots) == 0
	switch n.Kind {
	case api.VkNull:
		return none && n.Text == ""
	case api.VkBool:
		return none && (n.Text == "true" || n.Text == "false")
	case api.VkNum, api.VkInt, api.VkFloat, api.VkDate:
		return none && n.Text != ""
	case api.VkStr:
		return none
	case api.VkList:
		return n.Text == "" && len(n.Keys) == 0 && len(n.Spots) == 0
	case api.VkMap:
		for i, key := range n.Keys {
			if slices.Contains(n.Keys[:i], key) {
				return false
			}
		}
		return n.Text == "" && len(n.Keys) == len(n.Subs) && len(n.Spots) == len(n.Keys)
	}
	return false
}

// valueOf a node, of a tree that may be.
func valueOf(t api.Tree, node int) api.Value {
	n := t.Nodes[node]
	v := of(n.Kind, n.Text)
	for i, sub := range n.Subs {
		v.List = append(v.List, valueOf(t, sub))
		if n.Kind == api.VkMap {
			v.Keys = append(v.Keys, n.Keys[i])
		}
	}
	return v
}

// nodesIn tells how many nodes there are in one, itself included, and how many lists and maps stand within one another there, by climbing up.
func nodesIn(t api.Tree, node int) (many, deep int) {
	ups, _ := above(t)
	for i := range t.Nodes {
		lists := 0
		for at := i; at != -1; at = ups[at] {
			if kind := t.Nodes[at].Kind; kind == api.VkList || kind == api.VkMap {
				lists++
			}
			if at == node {
				many++
				deep = max(deep, lists)
			}
		}
	}
	return many, deep
}

// told is a value, its keys as they stand.
func told(v api.Value) string {
	var parts []string
	for i, sub := range v.List {
		part := told(sub)
		if v.Kind == api.VkMap {
			part = strconv.Quote(v.Keys[i]) + "=" + part
		}
		parts = append(parts, part)
	}
	switch v.Kind {
	case api.VkList:
		return "[" + strings.Join(parts, " ") + "]"
	case api.VkMap:
		return "{" + strings.Join(parts, " ") + "}"
	}
	return strconv.Itoa(int(v.Kind)) + ":" + v.Text
}
