package ttrees_test

import (
	"reflect"
	"regexp"
	"slices"
	"testing"

	"inarch/api"
	"inarch/tkeys"
	"inarch/tlines"
	"inarch/ttrees"
	"inarch/tvalues"
)

// thing is a value of a document, as the model has it.
type thing struct {
	kind    api.Kind
	text    string
	keys    []string
	spots   []api.Span
	subs    []*thing
	span    api.Span
	deep    int
	sort    string // "header", "named", "dotted", "tables"; "" of what stands in values
	section int    // of a dotted one: how many headers stand ahead of its key
}

// model of a document: the chapter's words, case by case, beside the package's own way.
type model struct {
	s       string
	root    *thing
	section *thing
	headers int
	items   []*thing // what each item leads to; nil: nothing
}

var (
	headHere  = regexp.MustCompile(`^[\t ]*(\[\[|\[|)[\t ]*`)
	blankHere = regexp.MustCompile(`^(?:[#\r\n]|\z)`)
	equalHere = regexp.MustCompile(`^[\t ]*=[\t ]*`)
)

// wanted of a document.
func wanted(s string) (*model, api.Fault) {
	root := &thing{kind: api.VkMap, span: span(-1, -1), deep: 1}
	m := &model{s: s, root: root, section: root}
	for at := 0; at < len(s); {
		v, f := m.keyed(at)
		if f.Code != api.CoOK {
			return nil, f
		}
		it, f := tlines.Read(s, at)
		if f.Code != api.CoOK {
			return nil, f
		}
		m.items = append(m.items, v)
		at = it.Span.To
	}
	return m, api.Fault{}
}

// keyed tells what an item's key and value lead to.
func (m *model) keyed(at int) (*thing, api.Fault) {
	head := headHere.FindStringSubmatch(m.s[at:])
	at += len(head[0])
	if head[1] == "" && blankHere.MatchString(m.s[at:]) {
		return nil, api.Fault{}
	}
	k, end, f := tkeys.Read(m.s, at)
	switch {
	case f.Code != api.CoOK:
		return nil, f
	case head[1] == "":
		return m.pair(k, end)
	}
	return m.header(k, head[1] == "[[")
}

func (m *model) header(k tkeys.Key, many bool) (*thing, api.Fault) {
	t := m.root
	for i, word := range k.Words {
		spot, last, sub := k.Spans[i], i == len(k.Words)-1, t.by(word)
		switch {
		case sub == nil && last && many:
			if t.deep+2 > api.MaxDepth {
				return nil, fault(api.CoDepth, spot.From)
			}
			t = t.hang(word, spot, &thing{kind: api.VkList, sort: "tables"}).more()
		case sub == nil:
			if t.deep+1 > api.MaxDepth {
				return nil, fault(api.CoDepth, spot.From)
			}
			t = t.hang(word, spot, &thing{kind: api.VkMap, sort: "named"})
			if last {
				t.sort = "header"
			}
		case last && many && sub.sort == "tables":
			t = sub.more()
		case last && !many && sub.sort == "named":
			t = sub
			t.sort = "header"
		case !last && sub.sort == "tables":
			t = sub.subs[len(sub.subs)-1]
		case !last && sub.sort != "":
			t = sub
		default:
			return nil, fault(api.CoDup, spot.From)
		}
	}
	m.headers++
	m.section = t
	return t, api.Fault{}
}

func (m *model) pair(k tkeys.Key, end int) (*thing, api.Fault) {
	t := m.section
	for i, word := range k.Words {
		spot, last, sub := k.Spans[i], i == len(k.Words)-1, t.by(word)
		switch {
		case sub != nil && (last || sub.sort != "dotted" || sub.section != m.headers):
			return nil, fault(api.CoDup, spot.From)
		case sub != nil:
			t = sub
		case last:
			return m.value(t, word, spot, end)
		case t.deep+1 > api.MaxDepth:
			return nil, fault(api.CoDepth, spot.From)
		default:
			t = t.hang(word, spot, &thing{kind: api.VkMap, sort: "dotted", section: m.headers})
		}
	}
	return nil, fault(api.CoSyntax, end)
}

func (m *model) value(t *thing, word string, spot api.Span, end int) (*thing, api.Fault) {
	equal := equalHere.FindString(m.s[end:])
	if equal == "" {
		return nil, api.Fault{}
	}
	tree, _, f := tvalues.Read(m.s, end+len(equal), t.deep)
	if f.Code != api.CoOK {
		return nil, f
	}
	v := thingOf(tree, tree.Root)
	at := v.span
	t.hang(word, spot, v).span = at
	return v, api.Fault{}
}

// by a word: what a table has there.
func (t *thing) by(word string) *thing {
	if i := slices.Index(t.keys, word); i >= 0 {
		return t.subs[i]
	}
	return nil
}

// hang a thing without a span into a table.
func (t *thing) hang(word string, spot api.Span, sub *thing) *thing {
	t.keys, t.spots, t.subs = append(t.keys, word), append(t.spots, spot), append(t.subs, sub)
	sub.span, sub.deep = span(-1, -1), t.deep+1
	return sub
}

// more of a list's tables by one.
func (t *thing) more() *thing {
	sub := &thing{kind: api.VkMap, sort: "header", span: span(-1, -1), deep: t.deep + 1}
	t.subs = append(t.subs, sub)
	return sub
}

// thingOf a value's tree.
func thingOf(tree api.Tree, node int) *thing {
	n := tree.Nodes[node]
	v := &thing{kind: n.Kind, text: n.Text, keys: n.Keys, spots: n.Spots, span: n.Span}
	for _, sub := range n.Subs {
		v.subs = append(v.subs, thingOf(tree, sub))
	}
	return v
}

// sameAs tells if a tree's node, with all that stands in it, is a thing; it notes which node is which thing's.
func sameAs(tree api.Tree, node int, v *thing, nodes map[*thing]int, met map[int]bool) bool {
	if node < 0 || node >= len(tree.Nodes) || met[node] {
		return false
	}
	nodes[v], met[node] = node, true
	n := tree.Nodes[node]
	if n.Kind != v.kind || n.Text != v.text || n.Span != v.span || !slices.Equal(n.Keys, v.keys) || !slices.Equal(n.Spots, v.spots) || len(n.Subs) != len(v.subs) {
		return false
	}
	for i, sub := range n.Subs {
		if !sameAs(tree, sub, v.subs[i], nodes, met) {
			return false
		}
	}
	return true
}

// look if a document is read as the model has it.
func look(t *testing.T, s string) {
	t.Helper()
	tree, f := ttrees.Parse([]byte(s))
	items, places := ttrees.Items([]byte(s))
	m, wantFault := wanted(s)
	if f != wantFault {
		t.Fatalf("%.200q: %v, not %v", s, f, wantFault)
	}
	if m == nil {
		if tree.Nodes != nil || tree.Root != 0 || items != nil || places != nil {
			t.Fatalf("%.200q: %v, %v, %v beside %v", s, tree, items, places, f)
		}
		return
	}
	nodes := map[*thing]int{}
	if !sameAs(tree, tree.Root, m.root, nodes, map[int]bool{}) || len(nodes) != len(tree.Nodes) {
		t.Fatalf("%.200q: %s", s, tells(tree, tree.Root))
	}
	want, _ := tlines.All(s)
	if !reflect.DeepEqual(items, want) || len(places) != len(m.items) {
		t.Fatalf("%.200q: %v, %v", s, items, places)
	}
	for i, v := range m.items {
		place, keyed := nodes[v]
		if keyed && places[i] != place || !keyed && places[i] != -1 {
			t.Fatalf("%.200q: the item %d leads to %d, not to %d", s, i, places[i], place)
		}
	}
}
