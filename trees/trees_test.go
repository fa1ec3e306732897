package trees_test

import (
	"fmt"
	"math"
	"math/rand"
	"reflect"
	"slices"
	"strconv"
	"strings"
	"testing"
	"unicode/utf8"
	"unsafe"

	"inarch/api"
	"inarch/jtrees"
	"inarch/trees"
	"inarch/ttrees"
	"inarch/values"
)

var (
	null = api.Value{}
	yes  = of(api.VkBool, "true")
)

func of(kind api.Kind, text string) api.Value { return api.Value{Kind: kind, Text: text} }

func num(text string) api.Value { return of(api.VkNum, text) }

func str(text string) api.Value { return of(api.VkStr, text) }

func list(l ...api.Value) api.Value { return api.Value{Kind: api.VkList, List: l} }

// table is a map, of keys and what they have in turn.
func table(entries ...any) api.Value {
	v := api.Value{Kind: api.VkMap}
	for i := 0; i < len(entries); i += 2 {
		v.Keys, v.List = append(v.Keys, entries[i].(string)), append(v.List, entries[i+1].(api.Value))
	}
	return v
}

// inLists is a value within so many lists and maps, by turns.
func inLists(v api.Value, many int) api.Value {
	for i := range many {
		if i%3 == 1 {
			v = table("a", num("1"), "b", v)
		} else {
			v = list(v)
		}
	}
	return v
}

func span(from, to int) api.Span { return api.Span{From: from, To: to} }

func fault(code api.Code, at int) api.Fault { return api.Fault{Code: code, At: at} }

// brief is what a failure tells of a tree, or of a value: of a great one no more than how it begins.
func brief(x any) string {
	if tree, ok := x.(api.Tree); ok {
		tree.Nodes = tree.Nodes[:min(9, len(tree.Nodes))]
		x = tree
	}
	s := fmt.Sprint(x)
	return s[:min(300, len(s))]
}

func often(s string, many int) string { return strings.Repeat(s, many) }

// documents in which nothing is wrong.
var jsons = []string{
	"null", " true ", "-1.50e1", `"\u0061\"é"`, "[]", "{}", "[1]", ` {"a": [1, 20e-1]} `, `{"b":{"a":null,"":[{},[],[[false]]]},"a":"x"}`,
	"[1,[2,3,[4,[5,6]],7],8]", `{"a":{"b":{"c":{"d":[0]}}},"e":{"b":1}}`, `[{"id":1,"n":"x"},{"id":2,"n":"y"}]`, often("[", api.MaxDepth) + often("]", api.MaxDepth), often(`{"a":`, api.MaxDepth) + "1" + often("}", api.MaxDepth),
}

var tomls = []string{
	"", "# x\r\n\n", "a = 1", "a.b = 1\n[c.d]\nx = 2\n[[e]]\n[[e]]\ny = 3\n", "[x]\na = [1, {b.c = 'y', d = []}, 07:32:00]\n'' = inf\n[y.z]\n[x.b]\nc = true # z\n[y]\nw = \"\\u00E9\"", "[1]", "x = []\ny = {}\nz = [[], [{}]]",
	"[[a]]\nb = 1979-05-27\n[[a.c]]\nd = -0.5\n[[a.c]]\n[a.e]\n[[a]]\nf = nan", "a = " + often("[", api.MaxDepth-1) + often("]", api.MaxDepth-1), often("a.", api.MaxDepth-1) + "a = 1", "[" + often("a.", api.MaxDepth-2) + "a]",
}

// parsed is a tree of a document in which nothing is wrong.
func parsed(t *testing.T, f api.Format, s string) api.Tree {
	t.Helper()
	tree, wrong := trees.Of(f, []byte(s))
	if wrong != (api.Fault{}) {
		t.Fatalf("%d, %.80q: %v", f, s, wrong)
	}
	return tree
}

// every tree of the documents.
func every(t *testing.T) []api.Tree {
	var l []api.Tree
	for _, s := range jsons {
		l = append(l, parsed(t, api.FmJSON, s))
	}
	for _, s := range tomls {
		l = append(l, parsed(t, api.FmTOML, s))
	}
	return l
}

// copied is a tree in other memory.
func copied(t api.Tree) api.Tree {
	t.Nodes = slices.Clone(t.Nodes)
	for i := range t.Nodes {
		n := &t.Nodes[i]
		n.Keys, n.Spots, n.Subs = slices.Clone(n.Keys), slices.Clone(n.Spots), slices.Clone(n.Subs)
	}
	return t
}

// P15.1

func TestOfIsWhatTheFormatsAnswer(t *testing.T) {
	wrong := []string{"", " ", "[1", "[1,]", `{"a":1,"a":2}`, `"\ud800"`, "1e1000000001", "\xFF", "[\"\xC3\"]", often("[", api.MaxDepth+1), "a = 1\na = 2", "[a]\n[a]", "a = 9223372036854775808", "a = 1979-13-01", "a = '", often("a.", api.MaxDepth) + "a = 1", "= 1", "a = 1e1000000001", "nul", "a"}
	for _, s := range slices.Concat(jsons, tomls, wrong) {
		b := []byte(s)
		tree, f := trees.Of(api.FmTOML, b)
		want, wantFault := ttrees.Parse(b)
		if utf8.ValidString(s) && (!reflect.DeepEqual(tree, want) || f != wantFault) {
			t.Errorf("TOML, %.80q: %v, %v, not %v, %v", s, tree, f, want, wantFault)
		}
		want, wantFault = jtrees.Parse(b)
		for _, format := range []api.Format{api.FmJSON, 2, 3, 7, 127, 128, 255} {
			if tree, f := trees.Of(format, b); !reflect.DeepEqual(tree, want) || f != wantFault {
				t.Errorf("%d, %.80q: %v, %v, not %v, %v", format, s, tree, f, want, wantFault)
			}
		}
	}
}

func TestOf(t *testing.T) {
	nowhere := span(-1, -1)
	for _, c := range []struct {
		f    api.Format
		s    string
		want api.Tree
	}{
		{api.FmJSON, "[1]", api.Tree{Nodes: []api.Node{{Kind: api.VkList, Subs: []int{1}, Span: span(0, 3)}, {Kind: api.VkNum, Text: "1e0", Span: span(1, 2)}}}},
		{api.FmTOML, "[1]", api.Tree{Nodes: []api.Node{{Kind: api.VkMap, Keys: []string{"1"}, Spots: []api.Span{span(1, 2)}, Subs: []int{1}, Span: nowhere}, {Kind: api.VkMap, Span: nowhere}}}},
		{9, "{}", api.Tree{Nodes: []api.Node{{Kind: api.VkMap, Span: span(0, 2)}}}},
		{api.FmTOML, "", api.Tree{Nodes: []api.Node{{Kind: api.VkMap, Span: nowhere}}}},
	} {
		if tree := parsed(t, c.f, c.s); !reflect.DeepEqual(tree, c.want) {
			t.Errorf("%d, %q: %v, not %v", c.f, c.s, tree, c.want)
		}
	}
	for _, c := range []struct {
		f    api.Format
		s    string
		want api.Fault
	}{
		{api.FmJSON, "", fault(api.CoSyntax, 0)}, {api.FmJSON, "[1", fault(api.CoSyntax, 2)}, {2, "a = 1", fault(api.CoSyntax, 0)}, {255, "[\"\xFF\"", fault(api.CoUtf8, 2)},
		{api.FmTOML, "a = 1\na = 2", fault(api.CoDup, 6)}, {api.FmTOML, "[1", fault(api.CoSyntax, 2)}, {api.FmTOML, "{}", fault(api.CoSyntax, 0)},
	} {
		if tree, f := trees.Of(c.f, []byte(c.s)); tree.Nodes != nil || tree.Root != 0 || f != c.want {
			t.Errorf("%d, %q: %v, %v, not %v", c.f, c.s, tree, f, c.want)
		}
	}
}

// TestOfUtf8: of each byte at each place, the first wrong one is told ahead of all else that is wrong.
func TestOfUtf8(t *testing.T) {
	met := 0
	for _, s := range []string{"a = 1\na = 2", "# \u00e9\u20ac\U0001F600", "é = '\uD7FF'\n= \"€\"", "\"\U0010FFFF\" = 1", "[a]\n[a]\n#"} {
		for at := range len(s) + 1 {
			for c := range 256 {
				for _, x := range []string{s[:at] + string([]byte{byte(c)}) + s[at:], s[:at] + string([]byte{byte(c)}), s[:at] + string([]byte{byte(c)}) + "\x80" + s[at:]} {
					tree, f := trees.Of(api.FmTOML, []byte(x))
					want, wantFault := ttrees.Parse([]byte(x))
					for i, r := range x {
						if _, n := utf8.DecodeRuneInString(x[i:]); r == utf8.RuneError && n == 1 {
							want, wantFault = api.Tree{}, fault(api.CoUtf8, i)
							met++
							break
						}
					}
					if !reflect.DeepEqual(tree, want) || f != wantFault {
						t.Fatalf("%q: %v, %v, not %v, %v", x, tree, f, want, wantFault)
					}
				}
			}
		}
	}
	if met < 1000 {
		t.Errorf("only %d with wrong bytes", met)
	}
}

func TestOfSize(t *testing.T) {
	most := "#" + often("a", api.MaxText-1)
	if tree := parsed(t, api.FmTOML, most); len(tree.Nodes) != 1 {
		t.Errorf("%d nodes", len(tree.Nodes))
	}
	if tree := parsed(t, api.FmJSON, "1"+often(" ", api.MaxText-1)); len(tree.Nodes) != 1 {
		t.Errorf("%d nodes", len(tree.Nodes))
	}
	for _, s := range []string{most + "a", "\xFF" + most, most + "\xFF", "=" + most, often("\xC3", api.MaxText+1), most + most, "1" + often(" ", api.MaxText)} {
		for _, f := range []api.Format{api.FmJSON, api.FmTOML, 2} {
			if tree, wrong := trees.Of(f, []byte(s)); tree.Nodes != nil || wrong != fault(api.CoSize, api.MaxText) {
				t.Errorf("%d, %.9q: %v", f, s, wrong)
			}
		}
	}
	for _, s := range []string{most[1:] + "\xFF", "=" + most[2:] + "\xFF"} {
		if tree, wrong := trees.Of(api.FmTOML, []byte(s)); tree.Nodes != nil || wrong != fault(api.CoUtf8, api.MaxText-1) {
			t.Errorf("%.9q: %v", s, wrong)
		}
	}
}

// P15.2

// refused looks if a tree may not be, and so has nothing.
func refused(t *testing.T, tree api.Tree) {
	t.Helper()
	if trees.May(tree) {
		t.Errorf("%s may be", brief(tree))
	}
	other, _ := trees.Make(list(null))
	for _, node := range []int{tree.Root, 0, 1, len(tree.Nodes) - 1} {
		if v, ok := trees.Value(tree, node); ok || !reflect.DeepEqual(v, api.Value{}) {
			t.Errorf("%s, %d: %s, %v", brief(tree), node, brief(v), ok)
		}
		if trees.Same(tree, node, tree, node) || trees.Same(tree, node, other, 1) || trees.Same(other, 1, tree, node) {
			t.Errorf("%s, %d: the same", brief(tree), node)
		}
	}
}

func sample() api.Tree {
	tree, _ := trees.Make(table("a", list(null, str("x")), "b", yes))
	return tree
}

func TestMay(t *testing.T) {
	for i, c := range []struct {
		change func(x *api.Tree)
		may    bool
	}{
		{func(x *api.Tree) {}, true},
		// Root, and who is reached.
		{func(x *api.Tree) { x.Root = 1 }, false},
		{func(x *api.Tree) { x.Root = -1 }, false},
		{func(x *api.Tree) { x.Root = 5 }, false},
		{func(x *api.Tree) { x.Root = math.MaxInt }, false},
		{func(x *api.Tree) { x.Root = math.MinInt }, false},
		{func(x *api.Tree) { x.Nodes[0], x.Nodes[4], x.Root = x.Nodes[4], x.Nodes[0], 4 }, false},
		{func(x *api.Tree) {
			x.Nodes[0], x.Nodes[4], x.Root = x.Nodes[4], x.Nodes[0], 4
			x.Nodes[4].Subs[1] = 0
		}, true},
		{func(x *api.Tree) { x.Nodes[0].Subs = []int{4, 1} }, true},
		{func(x *api.Tree) { x.Nodes[1].Subs = []int{3, 2} }, true},
		{func(x *api.Tree) { x.Nodes[1].Subs = []int{2} }, false},
		{func(x *api.Tree) { x.Nodes[1].Subs = []int{2, 3, 3} }, false},
		{func(x *api.Tree) { x.Nodes[1].Subs = []int{2, 4} }, false},
		{func(x *api.Tree) { x.Nodes[1].Subs = []int{2, 3, 4} }, false},
		{func(x *api.Tree) { x.Nodes[1].Subs = []int{2, 3, 0} }, false},
		{func(x *api.Tree) { x.Nodes[1].Subs = []int{2, 3, 1} }, false},
		{func(x *api.Tree) { x.Nodes[1].Subs = []int{2, 3, -1} }, false},
		{func(x *api.Tree) { x.Nodes[1].Subs = []int{2, 3, 5} }, false},
		{func(x *api.Tree) { x.Nodes[1].Subs[1] = math.MinInt }, false},
		{func(x *api.Tree) { x.Nodes[1].Subs[0] = math.MaxInt }, false},
		{func(x *api.Tree) { x.Nodes[0].Subs[0] = 0 }, false},
		{func(x *api.Tree) { x.Nodes = append(x.Nodes, api.Node{}) }, false},
		{func(x *api.Tree) { x.Nodes = append(x.Nodes, api.Node{Kind: api.VkList, Subs: []int{5}}) }, false},
		{func(x *api.Tree) {
			x.Nodes = append(x.Nodes, api.Node{Kind: api.VkList, Subs: []int{6}}, api.Node{Kind: api.VkList, Subs: []int{5}})
		}, false},
		{func(x *api.Tree) { x.Nodes = append(x.Nodes, api.Node{Kind: api.VkList, Subs: []int{0}}); x.Root = 5 }, true},
		{func(x *api.Tree) { x.Nodes = x.Nodes[:4] }, false},
		{func(x *api.Tree) { x.Nodes = nil }, false},
		{func(x *api.Tree) { x.Nodes = x.Nodes[:0] }, false},
		// Shapes.
		{func(x *api.Tree) { x.Nodes[0].Keys[1] = "a" }, false},
		{func(x *api.Tree) { x.Nodes[0].Keys[1] = "" }, true},
		{func(x *api.Tree) { x.Nodes[0].Keys = []string{"a"} }, false},
		{func(x *api.Tree) { x.Nodes[0].Keys = []string{"a"}; x.Nodes[0].Spots = make([]api.Span, 1) }, false},
		{func(x *api.Tree) {
			x.Nodes[0].Keys = []string{"a", "b", "c"}
			x.Nodes[0].Spots = make([]api.Span, 3)
		}, false},
		{func(x *api.Tree) { x.Nodes[0].Text = "x" }, false},
		{func(x *api.Tree) { x.Nodes[0].Kind = api.VkList }, false},
		{func(x *api.Tree) { x.Nodes[0].Kind, x.Nodes[0].Keys = api.VkList, nil }, false},
		{func(x *api.Tree) {
			x.Nodes[0].Kind, x.Nodes[0].Keys, x.Nodes[0].Spots = api.VkList, nil, nil
		}, true},
		{func(x *api.Tree) { x.Nodes[1].Kind = api.VkMap }, false},
		{func(x *api.Tree) { x.Nodes[1].Kind = api.VkStr }, false},
		{func(x *api.Tree) { x.Nodes[1].Text = "x" }, false},
		{func(x *api.Tree) { x.Nodes[1].Keys = []string{"a", "b"} }, false},
		{func(x *api.Tree) {
			x.Nodes[1].Keys, x.Nodes[1].Spots = []string{"a", "b"}, make([]api.Span, 2)
		}, false},
		{func(x *api.Tree) { x.Nodes[2].Text = "null" }, false},
		{func(x *api.Tree) { x.Nodes[2].Keys = []string{"a"} }, false},
		{func(x *api.Tree) { x.Nodes[3].Text = "" }, true},
		{func(x *api.Tree) { x.Nodes[3].Kind = api.VkDate }, true},
		{func(x *api.Tree) { x.Nodes[3].Kind = api.VkBool }, false},
		{func(x *api.Tree) { x.Nodes[4].Text = "" }, false},
		{func(x *api.Tree) { x.Nodes[4].Kind, x.Nodes[4].Text = api.VkNum, "" }, false},
		{func(x *api.Tree) { x.Nodes[4].Kind = 9 }, false},
		{func(x *api.Tree) { x.Nodes[4].Kind = 255 }, false},
		{func(x *api.Tree) { x.Nodes[4].Kind, x.Nodes[4].Text = api.VkList, "" }, true},
		// Spots and spans.
		{func(x *api.Tree) { x.Nodes[0].Spots = nil }, false},
		{func(x *api.Tree) { x.Nodes[0].Spots = x.Nodes[0].Spots[:1] }, false},
		{func(x *api.Tree) { x.Nodes[0].Spots = append(x.Nodes[0].Spots, span(0, 0)) }, false},
		{func(x *api.Tree) { x.Nodes[0].Spots[0] = span(9, -7) }, true},
		{func(x *api.Tree) { x.Nodes[0].Span = span(math.MaxInt, math.MinInt) }, true},
		{func(x *api.Tree) { x.Nodes[1].Spots = make([]api.Span, 2) }, false},
		{func(x *api.Tree) { x.Nodes[1].Spots = make([]api.Span, 1) }, false},
		{func(x *api.Tree) { x.Nodes[2].Spots = make([]api.Span, 1) }, false},
		{func(x *api.Tree) { x.Nodes[4].Spots = make([]api.Span, 1) }, false},
		{func(x *api.Tree) {
			x.Nodes[2].Keys, x.Nodes[2].Spots, x.Nodes[2].Subs = []string{}, []api.Span{}, []int{}
		}, true},
	} {
		x := sample()
		c.change(&x)
		if trees.May(x) != c.may || mayBe(x) != c.may {
			t.Errorf("%d: %v: %v, %v", i, x, trees.May(x), mayBe(x))
		}
		if !c.may {
			refused(t, x)
		}
	}
}

// everyList hands on all lists of up to so many numbers.
func everyList(most int, numbers []int, look func(l []int)) {
	look(nil)
	if most == 0 {
		return
	}
	for _, n := range numbers {
		everyList(most-1, numbers, func(l []int) { look(append([]int{n}, l...)) })
	}
}

// TestMayOfSmallTrees: of all of up to three nodes, each of which leads to up to two, as the model says it.
func TestMayOfSmallTrees(t *testing.T) {
	met := 0
	var grown func(nodes []api.Node, left int)
	grown = func(nodes []api.Node, left int) {
		if left > 0 {
			everyList(2, []int{-1, 0, 1, 2, 3}, func(l []int) {
				n := api.Node{Kind: api.VkList, Subs: l}
				if len(l) == 1 {
					n = api.Node{Kind: api.VkMap, Subs: l, Keys: []string{"a"}, Spots: make([]api.Span, 1)}
				}
				grown(append(slices.Clone(nodes), n), left-1)
			})
			return
		}
		for root := -1; root <= len(nodes); root++ {
			tree := api.Tree{Nodes: nodes, Root: root}
			may := mayBe(tree)
			if trees.May(tree) != may {
				t.Fatalf("%v: %v", tree, !may)
			}
			for node := range nodes {
				v, ok := trees.Value(tree, node)
				if ok != may || may && told(v) != told(valueOf(tree, node)) || !may && !reflect.DeepEqual(v, api.Value{}) {
					t.Fatalf("%v, %d: %v, %v", tree, node, v, ok)
				}
			}
			if may {
				met++
			}
		}
	}
	for many := range 4 {
		grown(nil, many)
	}
	if met != 1+2+3*2+3*2 {
		t.Errorf("%d may be", met)
	}
}

// TestMayOfShapes: of all nodes of few keys, spots and parts, as the model says it.
func TestMayOfShapes(t *testing.T) {
	keys := [][]string{nil, {}, {""}, {"a"}, {"a", "b"}, {"a", "a"}, {"a", "b", "a"}, {"a", "b", "c"}}
	for kind := range 256 {
		for _, text := range []string{"", "x", "true", "false", "True"} {
			for _, k := range keys {
				for spots := range 4 {
					for parts := range 4 {
						n := api.Node{Kind: api.Kind(kind), Text: text, Keys: k, Spots: make([]api.Span, spots), Subs: []int{1, 2, 3}[:parts]}
						for _, tree := range []api.Tree{{Nodes: append([]api.Node{n}, make([]api.Node, parts)...)}, {Nodes: append([]api.Node{n}, append(make([]api.Node, parts), api.Node{Kind: api.VkList, Subs: []int{0}})...), Root: parts + 1}} {
							if trees.May(tree) != mayBeNode(n) || mayBe(tree) != mayBeNode(n) {
								t.Fatalf("%v", tree)
							}
						}
					}
				}
			}
		}
	}
}

// chain is so many lists within one another, the outermost one first, with a node within them all.
func chain(many int, last api.Node) api.Tree {
	var t api.Tree
	for i := range many {
		t.Nodes = append(t.Nodes, api.Node{Kind: api.VkList, Subs: []int{i + 1}})
	}
	t.Nodes = append(t.Nodes, last)
	return t
}

// turned is a tree with its nodes turned round.
func turned(t api.Tree) api.Tree {
	t = copied(t)
	last := len(t.Nodes) - 1
	slices.Reverse(t.Nodes)
	t.Root = last - t.Root
	for _, n := range t.Nodes {
		for i := range n.Subs {
			n.Subs[i] = last - n.Subs[i]
		}
	}
	return t
}

func TestMayOfDepth(t *testing.T) {
	empty := []api.Node{{Kind: api.VkList}, {Kind: api.VkMap}}
	for _, many := range []int{0, 1, 2, 254, 255, 256, 257, 300} {
		for _, n := range append(empty, api.Node{}, api.Node{Kind: api.VkStr, Text: "x"}) {
			may := many < api.MaxDepth || many == api.MaxDepth && n.Kind < api.VkList
			for _, tree := range []api.Tree{chain(many, n), turned(chain(many, n))} {
				if trees.May(tree) != may || mayBe(tree) != may {
					t.Errorf("%v in %d", n, many)
				}
				if v, ok := trees.Value(tree, tree.Root); ok != may || may && values.Deep(v)+values.Size(v) != 2*many+1+int(n.Kind)/int(api.VkList) {
					t.Errorf("%v in %d: %v", n, many, ok)
				}
				if !may {
					refused(t, tree)
				}
			}
		}
	}
	// What is deeper is so wherever it stands.
	for _, tree := range every(t) {
		for node, n := range tree.Nodes {
			if len(tree.Nodes) > 50 || n.Kind != api.VkList {
				continue
			}
			x := copied(tree)
			x.Nodes[node].Subs = append(x.Nodes[node].Subs, len(x.Nodes))
			for i := range api.MaxDepth {
				x.Nodes = append(x.Nodes, api.Node{Kind: api.VkList, Subs: []int{len(x.Nodes) + 1}})
				if i == api.MaxDepth-1 {
					x.Nodes[len(x.Nodes)-1].Subs = nil
				}
			}
			if trees.May(x) {
				t.Errorf("%v, at %d", tree, node)
			}
		}
	}
	refused(t, chain(400000, api.Node{}))
}

// TestWithin: trees that lead back into themselves.
func TestWithin(t *testing.T) {
	const many = 2000
	shared := make([]int, many)
	for i := range shared {
		shared[i] = i
	}
	all, next, first := make([]api.Node, many), make([]api.Node, many), make([]api.Node, many)
	for i := range many {
		all[i] = api.Node{Kind: api.VkList, Subs: shared}
		next[i] = api.Node{Kind: api.VkList, Subs: shared[min(i+1, many-1):]}
		first[i] = api.Node{Kind: api.VkList, Subs: shared[:1]}
	}
	for _, nodes := range [][]api.Node{all, next, first} {
		for _, root := range []int{0, 1, many / 2, many - 1} {
			refused(t, api.Tree{Nodes: nodes, Root: root})
		}
	}
	// Twice as many ways with each step, and none but two nodes a step.
	var wide api.Tree
	for i := range api.MaxDepth - 1 {
		wide.Nodes = append(wide.Nodes, api.Node{Kind: api.VkList, Subs: []int{i + 1, i + 1}})
	}
	wide.Nodes = append(wide.Nodes, api.Node{})
	refused(t, wide)
}

func TestValue(t *testing.T) {
	for _, c := range []struct {
		f    api.Format
		s    string
		want []string // of each node
	}{
		{api.FmJSON, ` {"b": [1, null], "a": "x"}`, []string{`{"b"=[2:1e0 0:] "a"=3:x}`, "[2:1e0 0:]", "2:1e0", "0:", "3:x"}},
		{api.FmJSON, "[[], {}, true]", []string{"[[] {} 1:true]", "[]", "{}", "1:true"}},
		{api.FmJSON, `"a"`, []string{"3:a"}},
		{api.FmTOML, "b = 07:32:00.50\na.c = [0x1f, -0.0]", []string{`{"b"=6:07:32:00.5 "a"={"c"=[4:31 5:0]}}`, "6:07:32:00.5", `{"c"=[4:31 5:0]}`, "[4:31 5:0]", "4:31", "5:0"}},
		{api.FmTOML, "", []string{"{}"}},
	} {
		tree := parsed(t, c.f, c.s)
		var got []string
		for node := range tree.Nodes {
			v, ok := trees.Value(tree, node)
			if !ok {
				t.Errorf("%q, %d: nothing", c.s, node)
			}
			got = append(got, told(v))
		}
		if !slices.Equal(got, c.want) {
			t.Errorf("%q: %q, not %q", c.s, got, c.want)
		}
	}
	for _, tree := range every(t) {
		for _, x := range []api.Tree{tree, turned(tree)} {
			for node := range x.Nodes {
				if v, ok := trees.Value(x, node); !ok || told(v) != told(valueOf(x, node)) {
					t.Errorf("%s, %d: %s, %v", brief(x), node, brief(v), ok)
				}
			}
		}
	}
}

func TestNoSuchNode(t *testing.T) {
	for _, tree := range append(every(t), api.Tree{}, api.Tree{Root: -1}, api.Tree{Nodes: []api.Node{}}) {
		for _, node := range []int{-1, -2, math.MinInt, len(tree.Nodes), len(tree.Nodes) + 1, math.MaxInt} {
			if v, ok := trees.Value(tree, node); ok || !reflect.DeepEqual(v, api.Value{}) {
				t.Errorf("%s, %d: %s, %v", brief(tree), node, brief(v), ok)
			}
			if trees.Same(tree, node, tree, node) || trees.Same(tree, 0, tree, node) || trees.Same(tree, node, tree, 0) {
				t.Errorf("%s, %d: the same", brief(tree), node)
			}
		}
	}
}

func TestSame(t *testing.T) {
	for _, c := range []struct {
		f    api.Format
		s    string
		g    api.Format
		u    string
		same bool
	}{
		{api.FmJSON, `{"a":1,"b":[2]}`, api.FmJSON, "{ \"b\" : [20e-1],\n\"\\u0061\" : 1.0 }", true},
		{api.FmJSON, `{"a":1,"b":[2]}`, api.FmJSON, `{"a":1,"b":[3]}`, false},
		{api.FmJSON, "[1,2]", api.FmJSON, "[2,1]", false},
		{api.FmJSON, "[1,2]", api.FmJSON, "[1,2,2]", false},
		{api.FmJSON, "null", api.FmJSON, "null", true},
		{api.FmJSON, `"true"`, api.FmJSON, "true", false},
		{api.FmJSON, "[]", api.FmJSON, "{}", false},
		{api.FmTOML, "a.b = 1\na.c = 0x2", api.FmTOML, "[a]\nc = +2\nb = 1 # x\n", true},
		{api.FmTOML, "a = 1", api.FmTOML, "a = 1.0", false},
		{api.FmTOML, "a = 'x'\nb = [true]", api.FmJSON, `{"b":[true],"a":"x"}`, true},
		{api.FmTOML, "a = 1", api.FmJSON, `{"a":1}`, false},
		{api.FmTOML, "a = 1.0", api.FmJSON, `{"a":1}`, false},
		{api.FmTOML, "[[a]]\n[[a]]", api.FmJSON, `{"a":[{},{}]}`, true},
	} {
		a, b := parsed(t, c.f, c.s), parsed(t, c.g, c.u)
		if trees.Same(a, a.Root, b, b.Root) != c.same || trees.Same(b, b.Root, a, a.Root) != c.same {
			t.Errorf("%q, %q: %v", c.s, c.u, !c.same)
		}
	}
	x := parsed(t, api.FmJSON, `[1,[2],"a",{"b":2},[1]]`)
	y := parsed(t, api.FmJSON, `{"b":2,"x":[[1],1,"a"]}`)
	pairs := map[api.Pair]bool{{A: 1, B: 4}: true, {A: 7, B: 3}: true, {A: 1, B: 1}: false, {A: 2, B: 3}: false}
	for a := range x.Nodes {
		for b := range y.Nodes {
			same := told(valueOf(x, a)) == told(valueOf(y, b))
			if want, ok := pairs[api.Pair{A: a, B: b}]; ok && want != same {
				t.Errorf("%d, %d: the test itself", a, b)
			}
			if trees.Same(x, a, y, b) != same || trees.Same(y, b, x, a) != same {
				t.Errorf("%d, %d: %v", a, b, !same)
			}
		}
	}
}

// TestSameOfEveryPair of the small documents' nodes.
func TestSameOfEveryPair(t *testing.T) {
	small := slices.DeleteFunc(every(t), func(x api.Tree) bool { return len(x.Nodes) > 50 })
	for _, x := range small {
		for _, y := range small {
			for a := range x.Nodes {
				for b := range y.Nodes {
					if same := values.Same(valueOf(x, a), valueOf(y, b)); trees.Same(x, a, y, b) != same {
						t.Fatalf("%v, %d, %v, %d: %v", x, a, y, b, !same)
					}
				}
			}
		}
	}
}

// P15.3

// random values that may be.
func random(r *rand.Rand, most int) api.Value {
	few := []api.Value{null, yes, num("1e0"), str(""), str("x"), of(api.VkInt, "1"), of(api.VkFloat, "nan"), of(api.VkDate, "07:32:00")}
	pick := r.Intn(10)
	if most == 0 || pick < 4 {
		return few[r.Intn(len(few))]
	}
	v := list()
	if pick < 7 {
		v = table()
	}
	for _, i := range r.Perm(5)[:r.Intn(5)] {
		v.List = append(v.List, random(r, most-1))
		if v.Kind == api.VkMap {
			v.Keys = append(v.Keys, string(rune('a'+i)))
		}
	}
	return v
}

// good values, all of which may be.
func good() []api.Value {
	l := []api.Value{null, yes, num("1e0"), num("no number"), str(""), str("a\x00\xFF"), of(api.VkInt, "1"), of(api.VkFloat, "inf"), of(api.VkDate, "1979-05-27")}
	l = append(l, list(), table(), list(list(), table(), list(list())), table("b", null, "a", table("c", list(yes), "", str("x"))), inLists(null, api.MaxDepth), inLists(list(), api.MaxDepth-1), inLists(table("a", null), api.MaxDepth-1))
	l = append(l, api.Value{List: []api.Value{}, Keys: []string{}}, api.Value{Kind: api.VkList, List: []api.Value{}}, api.Value{Kind: api.VkMap, List: []api.Value{}, Keys: []string{}}, api.Value{Kind: api.VkMap, Keys: []string{}})
	r := rand.New(rand.NewSource(15))
	for range 300 {
		l = append(l, random(r, 4))
	}
	return l
}

// bad values, none of which may be.
func bad() []api.Value {
	l := []api.Value{{Text: "x"}, {Kind: 9}, {Kind: 255}, yes, num(""), {Keys: []string{"a"}}, {List: []api.Value{null}}, {Kind: api.VkList, Text: "x"}, {Kind: api.VkMap, Keys: []string{"a"}}, {Kind: api.VkMap, List: []api.Value{null}}, {Kind: api.VkList, Keys: []string{"a"}, List: []api.Value{null}}, table("a", null, "a", null), inLists(null, api.MaxDepth+1), inLists(list(), api.MaxDepth), inLists(null, 5000)}
	l[3].Text = "True"
	self := make([]api.Value, 2)
	self[0], self[1] = list(self...), list(self...)
	l = append(l, list(self...))
	for _, v := range slices.Clone(l) {
		l = append(l, list(null, v), table("a", yes, "b", v))
	}
	return l
}

func TestMake(t *testing.T) {
	none := span(-1, -1)
	for _, c := range []struct {
		v    api.Value
		want []api.Node
	}{
		{null, []api.Node{{Span: none}}},
		{str("x"), []api.Node{{Kind: api.VkStr, Text: "x", Span: none}}},
		{table("b", list(num("1e0"), list(yes), null), "a", table("c", str("x")), "d", of(api.VkDate, "07:32:00")), []api.Node{
			{Kind: api.VkMap, Keys: []string{"b", "a", "d"}, Spots: []api.Span{none, none, none}, Subs: []int{1, 6, 8}, Span: none},
			{Kind: api.VkList, Subs: []int{2, 3, 5}, Span: none},
			{Kind: api.VkNum, Text: "1e0", Span: none},
			{Kind: api.VkList, Subs: []int{4}, Span: none},
			{Kind: api.VkBool, Text: "true", Span: none},
			{Span: none},
			{Kind: api.VkMap, Keys: []string{"c"}, Spots: []api.Span{none}, Subs: []int{7}, Span: none},
			{Kind: api.VkStr, Text: "x", Span: none},
			{Kind: api.VkDate, Text: "07:32:00", Span: none},
		}},
	} {
		if tree, ok := trees.Make(c.v); !ok || tree.Root != 0 || !reflect.DeepEqual(tree.Nodes, c.want) {
			t.Errorf("%v: %v, %v, not %v", c.v, tree, ok, c.want)
		}
	}
	for _, c := range []struct {
		kind api.Kind
		n    int
	}{{api.VkList, 0}, {api.VkMap, 0}} {
		tree, ok := trees.Make(api.Value{Kind: c.kind})
		if n := tree.Nodes; !ok || len(n) != 1 || n[0].Kind != c.kind || len(n[0].Keys)+len(n[0].Spots)+len(n[0].Subs) != c.n || n[0].Span != none {
			t.Errorf("%d: %v, %v", c.kind, tree, ok)
		}
	}
}

// walked are the nodes of a tree, by the model's way through the value: one ahead of those in it, and no span anywhere.
func walked(v api.Value, first int) (l []api.Node) {
	n := api.Node{Kind: v.Kind, Text: v.Text, Span: span(-1, -1)}
	next := first + 1
	var behind []api.Node
	for i, part := range v.List {
		if v.Kind == api.VkMap {
			n.Keys, n.Spots = append(n.Keys, v.Keys[i]), append(n.Spots, span(-1, -1))
		}
		n.Subs = append(n.Subs, next)
		in := walked(part, next)
		next += len(in)
		behind = append(behind, in...)
	}
	return append([]api.Node{n}, behind...)
}

func TestMakeOfGood(t *testing.T) {
	for _, v := range good() {
		tree, ok := trees.Make(v)
		want := walked(v, 0)
		if !ok || tree.Root != 0 || len(tree.Nodes) != len(want) || !trees.May(tree) || !mayBe(tree) {
			t.Fatalf("%s: %s, %v", brief(v), brief(tree), ok)
		}
		for i, n := range tree.Nodes {
			w := want[i]
			if n.Kind != w.Kind || n.Text != w.Text || n.Span != w.Span || !slices.Equal(n.Keys, w.Keys) || !slices.Equal(n.Spots, w.Spots) || !slices.Equal(n.Subs, w.Subs) {
				t.Errorf("%s: node %d is %v, not %v", brief(v), i, n, w)
			}
		}
	}
}

func TestMakeOfBad(t *testing.T) {
	for i, v := range bad() {
		if tree, ok := trees.Make(v); ok || tree.Nodes != nil || tree.Root != 0 {
			t.Errorf("%d: %s, %v", i, brief(tree), ok)
		}
	}
}

func TestSlice(t *testing.T) {
	for _, s := range []string{"", "a", "abc", "a\n\xFF\x00é"} {
		places := []int{math.MinInt, -2, math.MaxInt, math.MaxInt - 1}
		for at := -1; at <= len(s)+2; at++ {
			places = append(places, at)
		}
		for _, from := range places {
			for _, to := range places {
				want := ""
				if 0 <= from && from <= to && to <= len(s) {
					want = s[from:to]
				}
				room := append([]byte(s), "behind"...)
				got := trees.Slice(room[:len(s)], span(from, to))
				if string(got) != want || cap(got) != len(got) {
					t.Errorf("%q, %d, %d: %q, not %q, room for %d", s, from, to, got, want, cap(got))
				}
				for i := range got {
					got[i] = '!'
				}
				if string(room) != s+"behind" {
					t.Errorf("%q, %d, %d: it is the same memory", s, from, to)
				}
			}
		}
	}
	for _, s := range []api.Span{{}, {From: -1, To: -1}, {From: 0, To: 1}} {
		if got := trees.Slice(nil, s); len(got) != 0 {
			t.Errorf("%v: %q", s, got)
		}
	}
}

// P15.4

func TestDocumentsTreesMayBe(t *testing.T) {
	for _, tree := range every(t) {
		if !trees.May(tree) || !mayBe(tree) {
			t.Errorf("%s", brief(tree))
		}
	}
	met := 0
	for _, f := range []api.Format{api.FmJSON, api.FmTOML} {
		parts := [][]string{{"[", "]", "{", "}", ",", ":", `"a"`, `"b"`, "1"}, {"[", "]", "a", ".", "b", "=", "{", "}", "\n", "1", ","}}[f]
		var look func(s string, left int)
		look = func(s string, left int) {
			if tree, wrong := trees.Of(f, []byte(s)); wrong == (api.Fault{}) {
				met++
				if !trees.May(tree) || !mayBe(tree) {
					t.Fatalf("%q: %v", s, tree)
				}
			}
			for _, part := range parts {
				if left > 0 {
					look(s+part, left-1)
				}
			}
		}
		look("", 5)
	}
	if met < 200 {
		t.Errorf("only %d documents", met)
	}
}

// TestValueOfMade: a value is that of its tree's root.
func TestValueOfMade(t *testing.T) {
	for _, v := range good() {
		tree, _ := trees.Make(v)
		if got, ok := trees.Value(tree, tree.Root); !ok || !reflect.DeepEqual(got, v) || !values.Same(got, v) {
			t.Errorf("%s: %s, %v", brief(v), brief(got), ok)
		}
		if again, _ := trees.Make(v); !trees.Same(tree, 0, again, 0) {
			t.Errorf("%s: not the same", brief(v))
		}
	}
	// And the tree of a document's value says what the document does.
	for _, tree := range every(t) {
		v, _ := trees.Value(tree, tree.Root)
		if made, ok := trees.Make(v); !ok || len(made.Nodes) != len(tree.Nodes) || !trees.Same(made, 0, tree, tree.Root) {
			t.Errorf("%s", brief(tree))
		}
	}
}

func TestAsManyNodes(t *testing.T) {
	for _, tree := range every(t) {
		for _, x := range []api.Tree{tree, turned(tree)} {
			for node := range x.Nodes {
				v, _ := trees.Value(x, node)
				if many, deep := nodesIn(x, node); values.Size(v) != many || values.Deep(v) != deep {
					t.Errorf("%s, %d: size %d, deep %d, not %d, %d", brief(x), node, values.Size(v), values.Deep(v), many, deep)
				}
			}
		}
	}
}

func TestManyNodes(t *testing.T) {
	const many = 200000
	var b strings.Builder
	for i := range many {
		b.WriteString(`"k` + strconv.Itoa(i) + `":[],`)
	}
	tree := parsed(t, api.FmJSON, "{"+b.String()+`"":1}`)
	v, ok := trees.Value(tree, 0)
	if !ok || values.Size(v) != many+2 || v.Keys[many-1] != "k"+strconv.Itoa(many-1) {
		t.Errorf("%d, %v", values.Size(v), ok)
	}
	made, ok := trees.Make(v)
	if !ok || len(made.Nodes) != many+2 || !trees.Same(made, 0, turned(tree), many+1) {
		t.Errorf("%d nodes, %v", len(made.Nodes), ok)
	}
	made.Nodes[0].Subs[many] = 1
	refused(t, made)
}

// R1

func TestNothing(t *testing.T) {
	if tree, f := trees.Of(api.FmTOML, nil); len(tree.Nodes) != 1 || f != (api.Fault{}) {
		t.Error(tree, f)
	}
	if tree, f := trees.Of(api.FmJSON, nil); tree.Nodes != nil || f != fault(api.CoSyntax, 0) {
		t.Error(tree, f)
	}
	refused(t, api.Tree{})
	if tree, ok := trees.Make(api.Value{}); !ok || len(tree.Nodes) != 1 {
		t.Error(tree, ok)
	}
}

// withRoom has a tree's lists stand ahead of others.
func withRoom(t api.Tree) api.Tree {
	t = copied(t)
	for i := range t.Nodes {
		n := &t.Nodes[i]
		n.Keys = append(n.Keys, "behind")[:len(n.Keys)]
		n.Spots = append(n.Spots, span(7, 7))[:len(n.Spots)]
		n.Subs = append(n.Subs, -7)[:len(n.Subs)]
	}
	t.Nodes = append(t.Nodes, api.Node{Text: "behind"})[:len(t.Nodes)]
	return t
}

// behind tells if what stood behind a tree's lists still does.
func behind(t api.Tree) bool {
	ok := t.Nodes[:len(t.Nodes)+1][len(t.Nodes)].Text == "behind"
	for _, n := range t.Nodes {
		ok = ok && n.Keys[:len(n.Keys)+1][len(n.Keys)] == "behind" && n.Spots[:len(n.Spots)+1][len(n.Spots)] == span(7, 7) && n.Subs[:len(n.Subs)+1][len(n.Subs)] == -7
	}
	return ok
}

func TestNothingIsChanged(t *testing.T) {
	for _, tree := range every(t) {
		wrong := copied(tree)
		wrong.Nodes[len(wrong.Nodes)-1].Subs = []int{0}
		for _, want := range []api.Tree{tree, wrong} {
			x := withRoom(want)
			trees.May(x)
			trees.Value(x, x.Root)
			trees.Same(x, x.Root, x, x.Root)
			same := x.Root == want.Root && len(x.Nodes) == len(want.Nodes)
			for i, n := range x.Nodes {
				w := want.Nodes[i]
				same = same && n.Kind == w.Kind && n.Text == w.Text && n.Span == w.Span && slices.Equal(n.Keys, w.Keys) && slices.Equal(n.Spots, w.Spots) && slices.Equal(n.Subs, w.Subs)
			}
			if !same || !behind(x) {
				t.Errorf("%s, not %s", brief(x), brief(want))
			}
		}
	}
	l, want := append(good(), bad()[:10]...), append(good(), bad()[:10]...)
	for i, v := range l {
		v.List = append(v.List, str("behind"))[:len(v.List)]
		v.Keys = append(v.Keys, "behind")[:len(v.Keys)]
		trees.Make(v)
		if !reflect.DeepEqual(l[i], want[i]) || v.List[:len(v.List)+1][len(v.List)].Text != "behind" || v.Keys[:len(v.Keys)+1][len(v.Keys)] != "behind" {
			t.Errorf("%s, not %s", brief(v), brief(want[i]))
		}
	}
	for _, s := range append(slices.Concat(jsons, tomls), "a = '\xFF'") {
		b := append([]byte(s), "behind"...)
		trees.Of(api.FmTOML, b[:len(s)])
		trees.Of(api.FmJSON, b[:len(s)])
		if string(b) != s+"behind" {
			t.Errorf("%q, not %q", b, s)
		}
	}
}

// R4

// shares tells if a text stands in another one's memory.
func shares(a, b string) bool {
	at, from := uintptr(unsafe.Pointer(unsafe.StringData(a))), uintptr(unsafe.Pointer(unsafe.StringData(b)))
	return from <= at && at < from+uintptr(len(b))
}

// tight tells if nothing of a value has room behind, nor is a tree's text.
func tight(v api.Value, t api.Tree, node int) bool {
	n := t.Nodes[node]
	ok := cap(v.List) == len(v.List) && cap(v.Keys) == len(v.Keys) && !shares(v.Text, n.Text)
	for i := range v.List {
		ok = ok && tight(v.List[i], t, n.Subs[i])
	}
	for i := range v.Keys {
		ok = ok && !shares(v.Keys[i], n.Keys[i]) && &v.Keys[i] != &n.Keys[i]
	}
	return ok
}

// spoil all that a value's lists have.
func spoil(v api.Value) {
	for i := range v.List {
		spoil(v.List[i])
		v.List[i] = str("spoilt")
	}
	for i := range v.Keys {
		v.Keys[i] = "spoilt"
	}
}

func TestValuesAreTheirOwn(t *testing.T) {
	for _, tree := range every(t) {
		x := withRoom(tree)
		for node := range x.Nodes {
			v, _ := trees.Value(x, node)
			if !tight(v, x, node) {
				t.Errorf("%s, %d: %s", brief(tree), node, brief(v))
			}
			spoil(v)
			if w, ok := trees.Value(x, node); !ok || told(w) != told(valueOf(tree, node)) {
				t.Fatalf("%s, %d: spoilt", brief(tree), node)
			}
		}
		if !behind(x) {
			t.Errorf("%s: spoilt behind", brief(tree))
		}
	}
}

// TestListsOfOneAnswer share no memory, also if those of a tree do.
func TestListsOfOneAnswer(t *testing.T) {
	keys, spots := []string{"a", "b"}, make([]api.Span, 2)
	tree := api.Tree{Nodes: []api.Node{{Kind: api.VkMap, Keys: keys, Spots: spots, Subs: []int{1, 2}}, {Kind: api.VkMap, Keys: keys, Spots: spots, Subs: []int{3, 4}}, {Kind: api.VkMap, Keys: keys, Spots: spots, Subs: []int{5, 6}}, {}, {}, {}, {}}}
	v, ok := trees.Value(tree, 0)
	if !ok {
		t.Fatal("it may be")
	}
	v.List[0].Keys[0] = "spoilt"
	if told(v.List[1]) != `{"a"=0: "b"=0:}` || v.Keys[0] != "a" || keys[0] != "a" {
		t.Error(v)
	}
	shared := []api.Value{null, null}
	made, _ := trees.Make(list(list(shared...), list(shared...)))
	made.Nodes[1].Subs[0] = 7
	if !slices.Equal(made.Nodes[4].Subs, []int{5, 6}) {
		t.Error(made)
	}
}

func TestMadeIsItsOwn(t *testing.T) {
	for _, v := range good() {
		v.List, v.Keys = slices.Grow(v.List, 3), slices.Grow(v.Keys, 3)
		want := told(v)
		tree, _ := trees.Make(v)
		if cap(tree.Nodes) != len(tree.Nodes) {
			t.Errorf("%s: room behind the nodes", brief(v))
		}
		for _, n := range tree.Nodes {
			if cap(n.Keys) != len(n.Keys) || cap(n.Spots) != len(n.Spots) || cap(n.Subs) != len(n.Subs) {
				t.Errorf("%s: room behind in %v", brief(v), n)
			}
		}
		if n := tree.Nodes[0]; shares(n.Text, v.Text) || len(n.Keys) > 0 && shares(n.Keys[0], v.Keys[0]) {
			t.Errorf("%s: its texts are the value's", brief(v))
		}
		for i := range tree.Nodes {
			clear(tree.Nodes[i].Keys)
			clear(tree.Nodes[i].Spots)
			clear(tree.Nodes[i].Subs)
		}
		if told(v) != want {
			t.Errorf("%s: spoilt", brief(v))
		}
	}
}

func TestDocumentsTreesAreTheirOwn(t *testing.T) {
	for f, l := range [][]string{jsons, tomls} {
		for _, s := range l {
			b := []byte(s)
			tree, _ := trees.Of(api.Format(f), b)
			clear(b)
			if !reflect.DeepEqual(tree, parsed(t, api.Format(f), s)) {
				t.Errorf("%.300q: it has changed with the document", s)
			}
			for _, n := range tree.Nodes {
				if cap(tree.Nodes) != len(tree.Nodes) || cap(n.Keys) != len(n.Keys) || cap(n.Spots) != len(n.Spots) || cap(n.Subs) != len(n.Subs) {
					t.Errorf("%.300q: room behind in %v", s, n)
				}
			}
		}
	}
}
