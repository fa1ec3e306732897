package ttrees_test

import (
	"bytes"
	"reflect"
	"regexp"
	"slices"
	"strconv"
	"strings"
	"testing"

	"inarch/api"
	"inarch/tlines"
	"inarch/ttrees"
	"inarch/tvalues"
)

func span(from, to int) api.Span { return api.Span{From: from, To: to} }

func fault(code api.Code, at int) api.Fault { return api.Fault{Code: code, At: at} }

func often(s string, many int) string { return strings.Repeat(s, many) }

// tells a node, with all that stands in it: texts, the places of its keys, and spans, where there is one.
func tells(tree api.Tree, node int) string {
	n := tree.Nodes[node]
	var parts []string
	for i, sub := range n.Subs {
		part := tells(tree, sub)
		if n.Kind == api.VkMap {
			part = n.Keys[i] + at(n.Spots[i]) + "=" + part
		}
		parts = append(parts, part)
	}
	switch n.Kind {
	case api.VkList:
		return "[" + strings.Join(parts, " ") + "]" + at(n.Span)
	case api.VkMap:
		return "{" + strings.Join(parts, " ") + "}" + at(n.Span)
	}
	return strconv.Itoa(int(n.Kind)) + ":" + n.Text + at(n.Span)
}

func at(s api.Span) string {
	if s == span(-1, -1) {
		return ""
	}
	return "<" + strconv.Itoa(s.From) + "," + strconv.Itoa(s.To) + ">"
}

var places = regexp.MustCompile(`<[0-9]+,[0-9]+>`)

// says what a tree says, without a word of where.
func says(tree api.Tree) string { return places.ReplaceAllString(tells(tree, tree.Root), "") }

// sorted says what a node says, with its keys in their order.
func sorted(tree api.Tree, node int) string {
	n := tree.Nodes[node]
	var parts []string
	for i, sub := range n.Subs {
		part := sorted(tree, sub)
		if n.Kind == api.VkMap {
			part = strconv.Quote(n.Keys[i]) + "=" + part
		}
		parts = append(parts, part)
	}
	if n.Kind == api.VkMap {
		slices.Sort(parts)
	}
	return strconv.Itoa(int(n.Kind)) + ":" + n.Text + "(" + strings.Join(parts, " ") + ")"
}

// parse a document in which nothing is wrong.
func parse(t *testing.T, s string) api.Tree {
	t.Helper()
	tree, f := ttrees.Parse([]byte(s))
	if f != (api.Fault{}) {
		t.Fatalf("%.200q: %v", s, f)
	}
	return tree
}

// refused looks if a document has just this fault, and nothing else is answered.
func refused(t *testing.T, s string, code api.Code, at int) {
	t.Helper()
	if tree, f := ttrees.Parse([]byte(s)); tree.Nodes != nil || tree.Root != 0 || f != fault(code, at) {
		t.Errorf("%.200q: %d nodes, %v, not %v", s, len(tree.Nodes), f, fault(code, at))
	}
	if items, nodes := ttrees.Items([]byte(s)); items != nil || nodes != nil {
		t.Errorf("%.200q: %v, %v", s, items, nodes)
	}
}

// documents in which nothing is wrong, and what their trees tell.
var documents = []struct{ s, want string }{
	{"", "{}"}, {"\n", "{}"}, {"# a = 1\r\n\t\n", "{}"}, {" ", "{}"},
	// Pairs.
	{"a=1", "{a<0,1>=4:1<2,3>}"},
	{"b = 1\n\n# x\n a = 'y' # z\r\n", "{b<0,1>=4:1<4,5> a<12,13>=3:y<16,19>}"},
	{"\"\" = true\n'a b'=1979-05-27\n1 = 1e1", "{<0,2>=1:true<5,9> a b<10,15>=6:1979-05-27<16,26> 1<27,28>=5:1e1<31,34>}"},
	{"a = [1, {b = [2], c.d = 3}]\nb = {}", "{a<0,1>=[4:1<5,6> {b<9,10>=[4:2<14,15>]<13,16> c<18,19>={d<20,21>=4:3<24,25>}}<8,26>]<4,27> b<28,29>={}<32,34>}"},
	{"a = [\n{a = 1},\n]\n", "{a<0,1>=[{a<7,8>=4:1<11,12>}<6,13>]<4,16>}"},
	// Dotted keys.
	{"a.b=1", "{a<0,1>={b<2,3>=4:1<4,5>}}"},
	{"a.b=1\na.c=2", "{a<0,1>={b<2,3>=4:1<4,5> c<8,9>=4:2<10,11>}}"},
	{"a.b=1\nc=2\na . 'd'.e=3", "{a<0,1>={b<2,3>=4:1<4,5> d<14,17>={e<18,19>=4:3<20,21>}} c<6,7>=4:2<8,9>}"},
	{"a.b.c=1\n'a'.b.d={}\na.c=[]", "{a<0,1>={b<2,3>={c<4,5>=4:1<6,7> d<14,15>={}<16,18>} c<21,22>=[]<23,25>}}"},
	{"3.14=1\n\"3\".15=2", "{3<0,1>={14<2,4>=4:1<5,6> 15<11,13>=4:2<14,15>}}"},
	{"a.a.a=1\na.b.a=1\nb.a=1", "{a<0,1>={a<2,3>={a<4,5>=4:1<6,7>} b<10,11>={a<12,13>=4:1<14,15>}} b<16,17>={a<18,19>=4:1<20,21>}}"},
	// Tables.
	{"[a]", "{a<1,2>={}}"},
	{" [ a ] # x\nb=1\n[c]\nb=2", "{a<3,4>={b<11,12>=4:1<13,14>} c<16,17>={b<19,20>=4:2<21,22>}}"},
	{"[a.b.c]", "{a<1,2>={b<3,4>={c<5,6>={}}}}"},
	{"[a.b.c]\nx=1\n[a]\ny=2\n[a.b]\nz=3", "{a<1,2>={b<3,4>={c<5,6>={x<8,9>=4:1<10,11>} z<26,27>=4:3<28,29>} y<16,17>=4:2<18,19>}}"},
	{"[a]\n[a.b]\n[a.b.c]\n[a.d]", "{a<1,2>={b<7,8>={c<15,16>={}} d<21,22>={}}}"},
	{"[a.b]\n[c]\n[a]", "{a<1,2>={b<3,4>={}} c<7,8>={}}"},
	{"a=1\n[b]\na.a=1\n[c.b]\na=1", "{a<0,1>=4:1<2,3> b<5,6>={a<8,9>={a<10,11>=4:1<12,13>}} c<15,16>={b<17,18>={a<20,21>=4:1<22,23>}}}"},
	{"[\"\"]\n''=1\n[''.a]", "{<1,3>={<5,7>=4:1<8,9> a<14,15>={}}}"},
	// Lists of tables.
	{"[[a]]", "{a<2,3>=[{}]}"},
	{"[[a]]\nb=1\n[[ a ]]\n[['a']]\nb=2\nc.d=3", "{a<2,3>=[{b<6,7>=4:1<8,9>} {} {b<26,27>=4:2<28,29> c<30,31>={d<32,33>=4:3<34,35>}}]}"},
	{"[[a.b]]\n[a]\nc=1\n[[a.b]]\n[a.b.d]", "{a<2,3>={b<4,5>=[{} {d<29,30>={}}] c<12,13>=4:1<14,15>}}"},
	{"[[a]]\n[a.b]\nc=1\n[[a]]\n[a.b]\nc=2", "{a<2,3>=[{b<9,10>={c<12,13>=4:1<14,15>}} {b<25,26>={c<28,29>=4:2<30,31>}}]}"},
	{"[[a]]\n[[a.b]]\n[[a.b]]\n[[a]]\n[[a.b]]\n[a.b.c]", "{a<2,3>=[{b<10,11>=[{} {}]} {b<32,33>=[{c<41,42>={}}]}]}"},
	{"[[a.a.a]]\n[[a.a.a]]\n[a.a]\n[[a.a.b.a]]", "{a<2,3>={a<4,5>={a<6,7>=[{} {}] b<32,33>={a<34,35>=[{}]}}}}"},
	// Headers lead over what dotted keys made; pairs over what their own section made.
	{"a.b=1\n[a.c]\nd=2", "{a<0,1>={b<2,3>=4:1<4,5> c<9,10>={d<12,13>=4:2<14,15>}}}"},
	{"[a]\nb.c=1\nb.d=2\n[a.b.e]\n[[a.b.f]]\n[a.b.f.g]", "{a<1,2>={b<4,5>={c<6,7>=4:1<8,9> d<12,13>=4:2<14,15> e<21,22>={} f<30,31>=[{g<41,42>={}}]}}}"},
	{"a.b=1\n[a.c.d]\n[a.c]\ne=2", "{a<0,1>={b<2,3>=4:1<4,5> c<9,10>={d<11,12>={} e<20,21>=4:2<22,23>}}}"},
	{"[[a]]\nb.c=1\nb.d=2\n[[a]]\nb.c=1\n[a.b.d]", "{a<2,3>=[{b<6,7>={c<8,9>=4:1<10,11> d<14,15>=4:2<16,17>}} {b<24,25>={c<26,27>=4:1<28,29> d<35,36>={}}}]}"},
	{"a.b=1\nc=2\na.d=3\n[c2]\na.b=1\nc=2\na.d=3", "{a<0,1>={b<2,3>=4:1<4,5> d<12,13>=4:3<14,15>} c<6,7>=4:2<8,9> c2<17,19>={a<21,22>={b<23,24>=4:1<25,26> d<33,34>=4:3<35,36>} c<27,28>=4:2<29,30>}}"},
	// The chapter's own.
	{"a.b = 1\n[c.d]\nx = 2\n[[e]]\n[[e]]\ny = 3", "{a<0,1>={b<2,3>=4:1<6,7>} c<9,10>={d<11,12>={x<14,15>=4:2<18,19>}} e<22,23>=[{} {y<32,33>=4:3<36,37>}]}"},
	{"a.b = 1\n[a.c]", "{a<0,1>={b<2,3>=4:1<6,7> c<11,12>={}}}"},
}

// P13.1

func TestParseOfDocuments(t *testing.T) {
	for _, c := range documents {
		tree := parse(t, c.s)
		if got := tells(tree, tree.Root); got != c.want {
			t.Errorf("%q: %s, not %s", c.s, got, c.want)
		}
		look(t, c.s)
		for from := range len(c.s) {
			look(t, c.s[from:])
			look(t, c.s[:from])
			look(t, c.s+"\n"+c.s[from:])
		}
	}
}

// TestNodesHaveTheirs: what a kind of node does not have is nothing; each but the root is in one other.
func TestNodesHaveTheirs(t *testing.T) {
	for _, c := range documents {
		tree := parse(t, c.s)
		in := map[int]int{tree.Root: 1}
		for _, n := range tree.Nodes {
			parts := n.Kind == api.VkList || n.Kind == api.VkMap
			if parts && n.Text != "" || !parts && len(n.Subs) > 0 || n.Kind != api.VkMap && len(n.Keys)+len(n.Spots) > 0 || n.Kind == api.VkMap && (len(n.Keys) != len(n.Subs) || len(n.Spots) != len(n.Subs)) {
				t.Errorf("%q: %v", c.s, n)
			}
			for _, sub := range n.Subs {
				in[sub]++
			}
		}
		for node := range tree.Nodes {
			if in[node] != 1 {
				t.Errorf("%q: the node %d is reached in %d ways", c.s, node, in[node])
			}
		}
	}
}

// marked takes the mark `^` out of a text, and tells where it stood.
func marked(t *testing.T, s string) (string, int) {
	t.Helper()
	at := strings.IndexByte(s, '^')
	if at < 0 {
		t.Fatalf("%q has no mark", s)
	}
	return s[:at] + s[at+1:], at
}

// keysTwice are documents in which a key is what it may not be, at the mark.
var keysTwice = []string{
	// Pairs onto what is there.
	"a=1\n^a=2", "a=1\nb=2\n^'a'=2", "''=1\n^\"\"=2", "\"\\u0061\"=1\n ^a = 2", "a={}\n^a={}", "a.b=1\n^a=2", "a.b=1\na.^b=1", "a.b=1\na . ^'b' = 1", "a.b.c=1\na.^b=1", "a.b.c=1\nd=1\na.b.^c=2", "[a]\nb=1\n^b=2", "[a]\nb.c=1\n^b=2", "[[a]]\nb=1\n^b=1", "[a.b]\n[a]\n^b=1", "[[a.b]]\n[a]\n^b=1", "[[a]]\n[a.b]\n[[a]]\nb=1\n^b=2",
	// Pairs over what is no dotted table.
	"a=1\n^a.b=2", "a='x'\n^a.b.c=2", "a=[]\n^a.b=2", "a={}\n^a.b=2", "a={b=1}\n^a.c=2", "a={b.c=1}\n^a.b.d=2", "a.b=1\na.^b.c=2", "a.b={}\na.^b.c=2", "a.b={c=1}\na.^b.d=2", "a.b=[{}]\na.^b.c=2", "[a]\nb={}\n^b.c=2",
	// Pairs over tables that headers made, or lead over.
	"[a.b]\n[a]\n^b.c=1", "[a.b.c]\n[a]\n^b.d=1", "[a.b.c]\n[a]\n^b.c.d=1", "[a.b.c.d]\n[a]\n^b.c=1", "[[a.b]]\n[a]\n^b.c=1", "[[a.b.c]]\n[a]\n^b.d=1", "[a.b.c]\n[a.b]\nd=1\n[a]\n^b.e=1",
	// Tables onto what is there.
	"[a]\n[^a]", "[a]\nb=1\n[c]\n[ ^a ]", "[a]\n[^'a']", "[a.b]\n[a]\n[^a]", "[a.b]\n[a.^b]", "[a.b]\n[a]\n[a.^b]", "a=1\n[^a]", "a={}\n[^a]", "a=[]\n[^a]", "a=[{}]\n[^a]", "a.b=1\n[^a]", "a.b=1\n[a.^b]", "a.b.c=1\n[a.^b]", "[a]\nb=1\n[a.^b]", "[a]\nb.c=1\n[a.^b]", "[a]\nb.c=1\n[d]\n[a.^b]", "[a]\nb.c.d=1\n[a.b.^c]", "[[a]]\n[^a]", "[[a.b]]\n[a.^b]", "[[a]]\n[a.b]\n[a.^b]", "[[a]]\nb=1\n[a.^b]", "[[a]]\nb.c=1\n[a.^b]", "[[a]]\n[[a.b]]\n[a.^b]", "[[a]]\n[a.b.c]\n[a.b]\n[a.^b]", "[[a]]\n[a.b]\n[[a]]\n[a.b]\n[a.^b]", "''=1\n[^'']",
	// Lists of tables onto what is there.
	"[a]\n[[^a]]", "[a.b]\n[[^a]]", "[a.b]\n[[a.^b]]", "a=1\n[[^a]]", "a={}\n[[^a]]", "a=[]\n[[^a]]", "a=[{}]\n[[^a]]", "a.b=1\n[[^a]]", "a.b=1\n[[a.^b]]", "a.b.c=1\n[[a.^b]]", "[a]\nb=1\n[[a.^b]]", "[a]\nb=[{}]\n[[a.^b]]", "[a]\nb.c=1\n[[ a . ^b ]]", "[[a]]\nb=1\n[[a.^b]]", "[[a]]\nb=[]\n[[a.^b]]", "[[a]]\n[a.b]\n[[a.^b]]", "[[a]]\n[a.b.c]\n[[a.^b]]", "[[a.b]]\n[[^a]]", "[[a.b.c]]\n[[a.^b]]",
	// Headers over what none leads over.
	"a=1\n[^a.b]", "a=1\n[[^a.b]]", "a={}\n[^a.b]", "a={b={}}\n[^a.b.c]", "a={b.c=1}\n[^a.b.d]", "a=[]\n[^a.b]", "a=[{}]\n[^a.b]", "a=[{}]\n[[^a.b]]", "a=[{b=[{}]}]\n[[^a.b]]", "a.b=1\n[a.^b.c]", "a.b={}\n[a.^b.c]", "a.b={c.d=1}\n[[a.^b.c.e]]", "[a]\nb=1\n[a.^b.c]", "[a]\nb=1\n[a.^b.c.d]", "[[a]]\nb={}\n[a.^b.c]", "[[a]]\nb=[{}]\n[a.^b.c]", "[[a]]\nb=1\n[[a]]\nb={}\n[a.^b.c]",
	// As they are written, however words are quoted.
	"[a.'b.c']\n[a.^\"b.c\"]", "['a.b']\n[a.b]\n[^'a.b']", "[a . b]\n[a.^b]",
}

func TestParseOfKeysTwice(t *testing.T) {
	for _, c := range keysTwice {
		s, at := marked(t, c)
		refused(t, s, api.CoDup, at)
		look(t, s)
		// It is told ahead of what stands behind the word.
		for _, behind := range []string{"", " ", "\n", "\r", "@", "]", " x", ".b", "=", "=@", "]]x"} {
			look(t, s+behind)
			look(t, s[:at+1]+behind)
		}
		// Blanks and remarks, lines that are behind it, and other keys ahead, change nothing of it.
		for _, ahead := range []string{"# x\n\n", "z=1\n", "zz.z=1\n"} {
			refused(t, ahead+s, api.CoDup, at+len(ahead))
		}
		refused(t, s+"\nz=1\n[zz]\n[zz]", api.CoDup, at)
		refused(t, s+"\n=", api.CoDup, at)
	}
}

func TestParseOfOtherKeys(t *testing.T) {
	for _, s := range []string{
		"a=1\nA=2\naa=3\n'a '=4\n\"a.b\"=5\n'\\u0061'=6", "a.b=1\n'a.b'=2\n[\"a.b.c\"]", "a=1\n[b]\na=1\n[c]\na=1\n[b.b]\na=1\n[c.b]\na=1", "[a]\na=1\n[b]\na=1", "[a]\na.a=1\na.b=1\n[b]\na.a=1", "[a.a]\n[a]\n[a.b]\n[b.a]\n[b]", "[[a]]\na=1\n[[a]]\na=1\n[[a]]\na.a=1", "[[a]]\n[a.a]\n[[a]]\n[a.a]\n[[a]]\n[[a.a]]", "[[a]]\n[[a.a]]\n[[a.a]]\n[[a]]\n[a.a]", "[a.b.c]\n[a.b]\n[a]", "[a]\nb.c=1\n[b]\nb.c=1", "a.b=1\na.c={d=1}\n[a.d]\n[a.e.f]\n[a.e]",
	} {
		parse(t, s)
		look(t, s)
	}
}

// TestParseOfFaults: what is wrong in an item itself, at the mark; also behind others.
func TestParseOfFaults(t *testing.T) {
	for _, c := range []struct {
		code  api.Code
		texts []string
	}{
		{api.CoSyntax, []string{"^=1", "^.a=1", "a.^=1", "a.^.", "a^", "a ^", "a^\n", "a^\n=1", "a ^b=1", "a^,", "a=^", "a= ^\n1", "a=^@", "a=[1 ^2]", "a=[\n^", "a={^\n}", "a=1 ^b=2", "a=1^]", "a=1\r^", "a=1 #^\x00", "\r^", "#\r^", "#^\x01", "^\xFF=1", "^\x00", "^é=1", "^{a=1}", "^]", "a=\"\\^x\"", "'a^\n'=1", "a='''^",
			"[^]", "[^", "[ ^]", "[^.a]", "[a.^]", "[a^", "[a^\n]", "[a ^b]", "[a^=1]", "[a]^b", "[a]^]", "[a]\r^", "[a] #^\x7F", "[ ^[a]]", "[[^", "[[^]]", "[[^[a]]]", "[[a^", "[[a]^", "[[a]^ ]", "[[a]]^]", "[[a]]^b", "[[a]^\n", "[[a.^]]"}},
		{api.CoInt, []string{"a=^9223372036854775808", "a=[1,^-9223372036854775809]", "a.b = ^0x8000000000000000 # x"}},
		{api.CoExponent, []string{"a=^1e1000000001", "a={b=^1e-1000000001}"}},
		{api.CoDate, []string{"a=^1979-02-29", "a.b=^24:00:00"}},
		{api.CoDup, []string{"a={b=1,^b=1}", "a={b.c=1,b.^c=2}", "a=[{b={},^b.c=1}]"}},
	} {
		for _, text := range c.texts {
			s, at := marked(t, text)
			refused(t, s, c.code, at)
			look(t, s)
			for _, ahead := range []string{"\n# x\r\n", "b=1\n", "[b.a]\n", "[[b.a]]\n\n", "b.a=1\n[b.c]\na.c=1\n[[c]]\n"} {
				refused(t, ahead+s, c.code, len(ahead)+at)
				look(t, ahead+s)
			}
		}
	}
}

// TestParseOfWhatIsFirst: of several faults; at the mark.
func TestParseOfWhatIsFirst(t *testing.T) {
	deepKey := often("a.", 255) + "a"
	for _, c := range []struct {
		code api.Code
		s    string
	}{
		// Of an item: the key's, its words', the value's, what else there is.
		{api.CoSyntax, "a=1\na.^=2"}, {api.CoSyntax, "a=1\na.'b^"}, {api.CoSyntax, "a=1\na.b.\"\\^x\"=1"}, {api.CoSyntax, "[a]\n[a.^]"}, {api.CoSyntax, "[a]\n[[a.b.^"}, {api.CoSyntax, deepKey + ".^=1"}, {api.CoSyntax, "[" + deepKey + ".b.^.]"},
		{api.CoDup, "a=1\n^a"}, {api.CoDup, "a=1\n^a 2"}, {api.CoDup, "a=1\n^a.b\n"}, {api.CoDup, "a=1\n^a=@"}, {api.CoDup, "a=1\n^a=9223372036854775808"}, {api.CoDup, "a=1\n^a=2 b"}, {api.CoDup, "a=1\n^a={b=1,b=2}"}, {api.CoDup, "[a]\n[^a"}, {api.CoDup, "[a]\n[^a]]"}, {api.CoDup, "[a]\n[^a] b"}, {api.CoDup, "[a]\n[[^a"}, {api.CoDup, "[a]\n[[^a]"}, {api.CoDup, "[a]\n[[^a]\n]"},
		{api.CoInt, "a=^9223372036854775808 b"}, {api.CoInt, "a=^9223372036854775808\r"}, {api.CoDate, "a=^24:00:00 #\x00"}, {api.CoSyntax, "a ^9223372036854775808"},
		// Of words: one by one.
		{api.CoDup, "a=1\n^" + deepKey + "=1"}, {api.CoDup, "a.b=1\na.^b." + deepKey + "=1"}, {api.CoDup, "a=1\n[^" + deepKey + "]"}, {api.CoDup, "a={}\n^a.a.a=1"}, {api.CoDup, "a={a={}}\n[^a.a]"},
		{api.CoDepth, often("a.", 255) + "^a.a=@"}, {api.CoDepth, often("a.", 255) + "^a.a"}, {api.CoDepth, "[" + often("a.", 255) + "^a.a"}, {api.CoDepth, "[[" + often("a.", 254) + "^a"}, {api.CoDepth, "[[" + often("a.", 255) + "^a.a@"},
		// Of items: one by one.
		{api.CoDup, "a=1\n^a=2\n=\na=3"}, {api.CoSyntax, "a=1\n^=\na=3"}, {api.CoDup, "[a]\n[^a]\n[b\n"}, {api.CoSyntax, "[a]\n[b^\n[a]"}, {api.CoInt, "a=^9223372036854775808\na=1"}, {api.CoDup, "a=1\n^a.b=2\nb." + deepKey + "=1"}, {api.CoSyntax, "#^\x00\na=1\na=1"}, {api.CoDup, "a=1\n^a=1\n#\x00"},
	} {
		s, at := marked(t, c.s)
		refused(t, s, c.code, at)
		look(t, s)
	}
}

// TestParseOfDepth: what is as deep as may be, and what is one deeper.
func TestParseOfDepth(t *testing.T) {
	const deepest = api.MaxDepth
	dots := func(many int) string { return often("a.", many-1) + "a" } // a key of so many words
	lists := func(many int) string { return often("[", many) + often("]", many) }
	for _, c := range []struct {
		fine, wrong string // wrong: at the mark
	}{
		{"a=" + lists(255), "a=" + often("[", 255) + "^[]" + often("]", 255)},
		{"a=" + often("{a=", 254) + "{}" + often("}", 254), "a=" + often("{a=", 255) + "^{}" + often("}", 255)},
		{dots(256) + "=1", often("a.", 255) + "^a.a=1"},
		{dots(255) + "=[]", dots(256) + "=^[]"},
		{dots(100) + "=" + lists(156), dots(100) + "=" + often("[", 156) + "^[" + often("]", 157)},
		{"[" + dots(255) + "]", "[" + often("a.", 255) + "^a]"},
		{"[" + dots(255) + "]\na=1", "[" + dots(255) + "]\n^a.a=1"},
		{"[" + dots(254) + "]\na=[]\nb={}\nc.a=1", "[" + dots(254) + "]\na=[^[]]"},
		{"[" + dots(254) + "]\na.a=1", "[" + dots(254) + "]\na.^a.a=1"},
		{"[" + dots(254) + "]\na.a=1\na.b=1", "[" + dots(254) + "]\na.a=1\na.^b.a=1"},
		{"[" + dots(254) + "]\na=1", "[" + dots(254) + "]\na.a=^{}"},
		{"[" + dots(200) + "]\n" + dots(50) + "=" + lists(6), "[" + dots(200) + "]\n" + dots(50) + "=" + often("[", 6) + "^[" + often("]", 7)},
		{"[[" + dots(254) + "]]", "[[" + often("a.", 254) + "^a]]"},
		{"[[" + dots(254) + "]]\na=1", "[[" + dots(254) + "]]\na=^[]"},
		{"[[" + dots(254) + "]]\n[[" + dots(254) + "]]\na='['", "[[" + dots(254) + "]]\n[[" + dots(254) + "]]\n^a.a=1"},
		{"[[" + dots(253) + "]]\n[" + dots(254) + "]", "[[" + dots(253) + "]]\n[" + often("a.", 254) + "^a]"},
		{"[[" + dots(253) + "]]\na=[]", "[[" + dots(253) + "]]\na=[^{}]"},
		{"[[" + dots(253) + "]]\na.b=1", "[[" + dots(253) + "]]\n[[" + often("a.", 253) + "^a]]"},
		{"[[" + dots(252) + "]]\n[[" + dots(253) + "]]", "[[" + dots(252) + "]]\n[[" + dots(253) + "]]\n[" + often("a.", 253) + "^a]"},
		{"[[a]]\n[[a.a]]\n[[a.a.a]]\na=" + lists(249), "[[a]]\n[[a.a]]\n[[a.a.a]]\na=" + often("[", 249) + "^[" + often("]", 250)},
	} {
		parse(t, c.fine)
		look(t, c.fine)
		s, at := marked(t, c.wrong)
		refused(t, s, api.CoDepth, at)
		look(t, s)
	}
	var b strings.Builder // lists of tables within one another: each is two deeper
	for i := range (deepest - 1) / 2 {
		b.WriteString("[[" + dots(i+1) + "]]\n")
	}
	parse(t, b.String())
	refused(t, b.String()+"[["+dots(deepest/2)+"]]", api.CoDepth, b.Len()+2+2*(deepest/2-1))
	parse(t, b.String()+"["+dots(deepest/2)+"]")
	refused(t, "["+dots(1000000)+"]", api.CoDepth, 1+2*255)
	refused(t, dots(1000000)+"=1", api.CoDepth, 2*255)
	refused(t, "[["+dots(1000000)+"]]", api.CoDepth, 2+2*255)
}

// everyText hands on all texts of up to so many of the parts.
func everyText(parts []string, most int, look func(s string)) {
	look("")
	if most == 0 {
		return
	}
	for _, part := range parts {
		everyText(parts, most-1, func(s string) { look(part + s) })
	}
}

// TestParseOfEveryDocument: whatever a few lines make, is it read as the model has it?
func TestParseOfEveryDocument(t *testing.T) {
	everyText([]string{"a=1\n", "a.a=1\n", "a.b=1\n", "a.a.b=1\n", "b=1\n", "a={}\n", "a=[{}]\n", "[a]\n", "[a.a]\n", "[a.b]\n", "[a.a.b]\n", "[b]\n", "[[a]]\n", "[[a.a]]\n", "[[a.a.b]]\n", "# a\n"}, 4, func(s string) { look(t, s) })
	everyText([]string{"a.b=1\n", "b.b=1\n", "[a]\n", "[a.b]\n", "[a.b.a]\n", "[[a]]\n", "[[a.b]]\n"}, 5, func(s string) { look(t, s) })
	everyText([]string{"a.b.a=1\n", "b.c=1\n", "[a.b]\n", "[a]\n", "[a.b.b.c]\n", "[[a.b.c]]\n"}, 5, func(s string) { look(t, s) })
}

func TestParseOfEveryText(t *testing.T) {
	everyText([]string{"a", "=", "1", "[", "]", ".", " ", "\n", "\r", "#", `"`, "{", "}", ",", "\xFF"}, 4, func(s string) { look(t, s) })
	everyText([]string{"[", "]", "a", "\n", "=1"}, 7, func(s string) { look(t, s) })
}

// TestParseOfSpoiltDocuments sets each byte at each place, ahead of what stands there, and in its stead.
func TestParseOfSpoiltDocuments(t *testing.T) {
	for _, c := range documents {
		if len(c.s) > 45 {
			continue
		}
		for from := range len(c.s) + 1 {
			for n := range 256 {
				b := string([]byte{byte(n)})
				look(t, c.s[:from]+b+c.s[from:])
				if from < len(c.s) {
					look(t, c.s[:from]+b+c.s[from+1:])
				}
			}
		}
	}
}

func TestParseOfLongDocuments(t *testing.T) {
	const many = 100000
	var pairs, headers, dotted strings.Builder
	for i := range many {
		n := strconv.Itoa(i)
		pairs.WriteString("k" + n + " = " + n + "\n")
		headers.WriteString("[h." + n + "]\nx = [" + n + "]\n")
		dotted.WriteString("d." + n + ".x = 1\n")
	}
	for _, c := range []struct {
		s     string
		nodes int
	}{
		{pairs.String(), 1 + many}, {headers.String(), 2 + 3*many}, {dotted.String(), 2 + 2*many}, {often("[[a]]\n", many), 2 + many}, {often("[[a.b]]\nc.d=1\n", many), 3 + 3*many}, {often("# x\n\r\n", many), 1}, {"a=[" + often("{b=[]},", many) + "]", 2 + 2*many},
	} {
		if tree := parse(t, c.s); len(tree.Nodes) != c.nodes {
			t.Errorf("%.20q: %d nodes, not %d", c.s, len(tree.Nodes), c.nodes)
		}
	}
	for _, c := range []struct{ s, again string }{{pairs.String(), "^k0 = 0"}, {headers.String(), "[h.^0]"}, {dotted.String(), "d.0.^x = 1"}, {dotted.String(), "d.^99999 = 1"}} {
		again, at := marked(t, c.again)
		refused(t, c.s+again, api.CoDup, len(c.s)+at)
	}
}

// P13.2

func TestItemsOfDocuments(t *testing.T) {
	for _, c := range []struct{ s, want string }{
		{"", ""}, {"\n", "b"}, {"# x\n\n ", "b; b; b"},
		{"a=1", "p 4:1<2,3>"}, {"a.b.c=1\n\na.b.d=[2] # x\n", "p 4:1<6,7>; b; p [4:2<16,17>]<15,18>"}, {"a={b=1}\nb=1", "p {b<3,4>=4:1<5,6>}<2,7>; p 4:1<10,11>"},
		{"[a]\nb=1", "t {b<4,5>=4:1<6,7>}; p 4:1<6,7>"}, {"[a.b]\n# x\n[a]\nc=1", "t {}; b; t {b<3,4>={} c<14,15>=4:1<16,17>}; p 4:1<16,17>"}, {"[a]\n[a.b.c]\n[a.b]", "t {b<7,8>={c<9,10>={}}}; t {}; t {c<9,10>={}}"},
		{"[[a]]\nb=1\n[[a]]\n[a.c]\n[[a]]", "T {b<6,7>=4:1<8,9>}; p 4:1<8,9>; T {c<19,20>={}}; t {}; T {}"}, {"[[a.b]]\n[[a.b]]\n[a]", "T {}; T {}; t {b<4,5>=[{} {}]}"},
		{"a.b=1\n[a.c]\n[[a.d]]\nx=2", "p 4:1<4,5>; t {}; T {x<20,21>=4:2<22,23>}; p 4:2<22,23>"},
	} {
		items, nodes := ttrees.Items([]byte(c.s))
		tree := parse(t, c.s)
		var parts []string
		for i, it := range items {
			part := "bptT"[it.Kind : it.Kind+1]
			if nodes[i] >= 0 {
				part += " " + tells(tree, nodes[i])
			}
			parts = append(parts, part)
		}
		if got := strings.Join(parts, "; "); got != c.want || len(items) != len(nodes) {
			t.Errorf("%q: %s, not %s", c.s, got, c.want)
		}
	}
}

// TestItemsLeadToTheirs: a pair's node has its span, and tells what its tree does; a header's is a table without one; a blank's is none.
func TestItemsLeadToTheirs(t *testing.T) {
	for _, c := range documents {
		tree := parse(t, c.s)
		items, nodes := ttrees.Items([]byte(c.s))
		want, _ := tlines.All(c.s)
		if !reflect.DeepEqual(items, want) || len(nodes) != len(items) {
			t.Fatalf("%q: %v, %v, not %v", c.s, items, nodes, want)
		}
		seen := map[int]bool{}
		for i, it := range items {
			switch node := nodes[i]; it.Kind {
			case tlines.ItBlank:
				if node != -1 {
					t.Errorf("%q: a blank leads to %d", c.s, node)
				}
				continue
			case tlines.ItPair:
				if tree.Nodes[node].Span != it.Value || tells(tree, node) != tells(it.Tree, it.Tree.Root) {
					t.Errorf("%q: %v leads to %s", c.s, it, tells(tree, node))
				}
			default:
				if n := tree.Nodes[node]; n.Kind != api.VkMap || n.Span != span(-1, -1) {
					t.Errorf("%q: %v leads to %v", c.s, it, n)
				}
			}
			if seen[nodes[i]] {
				t.Errorf("%q: two items lead to %d", c.s, nodes[i])
			}
			seen[nodes[i]] = true
		}
	}
}

// P13.3

// TestValuesByThemselves: each value's span is read alone as the tree that it has in the document.
func TestValuesByThemselves(t *testing.T) {
	for _, c := range documents {
		tree := parse(t, c.s)
		for node, n := range tree.Nodes {
			if n.Span == span(-1, -1) {
				continue
			}
			alone := c.s[n.Span.From:n.Span.To]
			value, end, f := tvalues.Read(alone, 0, 0)
			if f != (api.Fault{}) || end != len(alone) || tells(moved(value, n.Span.From), value.Root) != tells(tree, node) {
				t.Errorf("%q: %q tells %v, not %s", c.s, alone, value, tells(tree, node))
			}
		}
	}
}

// moved by so many bytes: a tree.
func moved(tree api.Tree, by int) api.Tree {
	move := func(s api.Span) api.Span {
		if s == span(-1, -1) {
			return s
		}
		return span(s.From+by, s.To+by)
	}
	nodes := slices.Clone(tree.Nodes)
	for i, n := range nodes {
		nodes[i].Span = move(n.Span)
		nodes[i].Spots = nil
		for _, spot := range n.Spots {
			nodes[i].Spots = append(nodes[i].Spots, move(spot))
		}
	}
	return api.Tree{Nodes: nodes, Root: tree.Root}
}

// TestRemarksMakeNoDifference: nor do blank lines, nor blanks around items.
func TestRemarksMakeNoDifference(t *testing.T) {
	for _, c := range documents {
		want := says(parse(t, c.s))
		items, _ := ttrees.Items([]byte(c.s))
		for _, blank := range []string{"", "\n", "\r\n", "# x\n", " \t\n# [a]\n# a = 1\r\n\n"} {
			for _, ahead := range []string{"", " \t"} {
				for _, behind := range []string{"", "\n", " # x\r\n", "#\n"} {
					s := blank
					for _, it := range items {
						line := strings.TrimRight(c.s[it.Span.From:it.Span.To], "\r\n")
						if behind == "" || strings.Contains(line, "#") {
							s += ahead + line + "\n" + blank
						} else {
							s += ahead + line + behind + blank
						}
					}
					if got := says(parse(t, s)); got != want {
						t.Errorf("%q: %s, not %s", s, got, want)
					}
				}
			}
		}
	}
}

// everyOrder hands on the parts in each order.
func everyOrder(parts []string, look func(parts []string)) {
	if len(parts) == 0 {
		look(nil)
		return
	}
	for i, first := range parts {
		rest := slices.Delete(slices.Clone(parts), i, i+1)
		everyOrder(rest, func(behind []string) { look(append([]string{first}, behind...)) })
	}
}

// TestPairsOrderMakesNoDifference, but to the order of keys.
func TestPairsOrderMakesNoDifference(t *testing.T) {
	for _, pairs := range [][]string{
		{"a=1\n", "b=2\n", "'c d'=[3]\n", "e={a=1}\n"},
		{"a.b=1\n", "a.c=2\n", "a.d.e=3\n", "a.d.f=4\n", "g=5\n"},
		{"a.b.c=1\n", "b.a.c=2\n", "a.c={x=1}\n", "b.c=[{}]\n", "c=5\n"},
	} {
		for _, around := range []struct{ begin, end string }{{"", ""}, {"[x]\n", ""}, {"[x.y]\n", "[x]\na=1"}, {"[[x]]\n", "[[x]]\na.b=1"}, {"", "[x]\na=1\n"}} {
			tree := parse(t, around.begin+strings.Join(pairs, "")+around.end)
			want := sorted(tree, tree.Root)
			everyOrder(pairs, func(parts []string) {
				s := around.begin + strings.Join(parts, "") + around.end
				if tree := parse(t, s); sorted(tree, tree.Root) != want {
					t.Errorf("%q: %s, not %s", s, sorted(tree, tree.Root), want)
				}
			})
		}
	}
}

// TestDottedPairsAreHeaders: one tells the same as its last word behind a header of the others.
func TestDottedPairsAreHeaders(t *testing.T) {
	words := []string{"a", "b", "'c d'", `""`, "a"}
	for many := 2; many <= len(words); many++ {
		last := many - 1
		for _, value := range []string{"1", "'x'", "[]", "{}", "[{a.b = 1}]", "{a.b = 1, a.c = []}"} {
			dotted := strings.Join(words[:many], ".") + " = " + value
			header := strings.Join(words[:last], ".") + "]\n" + words[last] + " = " + value
			for _, c := range [][2]string{{dotted, "[" + header}, {"x=1\n" + dotted, "x=1\n[" + header}, {"[x]\n" + dotted, "[x." + header}, {"[x.y]\n" + dotted, "[x.y." + header}, {"[[x]]\n" + dotted, "[[x]]\n[x." + header}, {"[[x]]\n[[x]]\n" + dotted, "[[x]]\n[[x]]\n[x." + header}} {
				look(t, c[0])
				look(t, c[1])
				if got, want := says(parse(t, c[0])), says(parse(t, c[1])); got != want {
					t.Errorf("%q: %s, not %s", c[0], got, want)
				}
			}
		}
	}
}

// R1

func TestNothing(t *testing.T) {
	for _, b := range [][]byte{nil, {}} {
		if tree, f := ttrees.Parse(b); len(tree.Nodes) != 1 || tree.Root != 0 || tree.Nodes[0].Kind != api.VkMap || f != (api.Fault{}) {
			t.Error(tree, f)
		}
		if items, nodes := ttrees.Items(b); len(items) != 0 || len(nodes) != 0 {
			t.Error(items, nodes)
		}
	}
}

// TestNothingIsKept of what is handed in, or changed; nor does one call's answer hang on another one's.
func TestNothingIsKept(t *testing.T) {
	for _, c := range documents {
		b := []byte(c.s)
		tree, _ := ttrees.Parse(b)
		items, nodes := ttrees.Items(b)
		if string(b) != c.s {
			t.Errorf("%q is %q now", c.s, b)
		}
		copy(b, bytes.Repeat([]byte{'x'}, len(b)))
		again, _ := ttrees.Parse([]byte(c.s))
		itemsAgain, nodesAgain := ttrees.Items([]byte(c.s))
		if !reflect.DeepEqual(tree, again) || !reflect.DeepEqual(items, itemsAgain) || !reflect.DeepEqual(nodes, nodesAgain) {
			t.Errorf("%q: %v, %v, %v; then %v, %v, %v", c.s, tree, items, nodes, again, itemsAgain, nodesAgain)
		}
	}
}

// R4

// tight tells if no list of a tree has room behind.
func tight(tree api.Tree) bool {
	ok := cap(tree.Nodes) == len(tree.Nodes)
	for _, n := range tree.Nodes {
		ok = ok && cap(n.Keys) == len(n.Keys) && cap(n.Spots) == len(n.Spots) && cap(n.Subs) == len(n.Subs)
	}
	return ok
}

func TestOwnMemory(t *testing.T) {
	texts := []string{often("[[a]]\n", 7)}
	for n := range 40 {
		s := ""
		for i := range n {
			s += "k" + strconv.Itoa(i) + ".x=[1,2,3]\n"
		}
		texts = append(texts, s)
	}
	for _, c := range documents {
		texts = append(texts, c.s)
	}
	for _, s := range texts {
		if tree := parse(t, s); !tight(tree) {
			t.Errorf("%q: %v", s, tree)
		}
		items, nodes := ttrees.Items([]byte(s))
		if cap(items) != len(items) || cap(nodes) != len(nodes) {
			t.Errorf("%q: room for %d, and %d, of %d", s, cap(items), cap(nodes), len(items))
		}
		for _, it := range items {
			if !tight(it.Tree) || cap(it.Key.Words) != len(it.Key.Words) || cap(it.Key.Spans) != len(it.Key.Spans) {
				t.Errorf("%q: %v", s, it)
			}
		}
	}
}

// spoil all lists of a node.
func spoil(n *api.Node) {
	for i := range n.Subs {
		n.Subs[i] = -7
	}
	for i := range n.Keys {
		n.Keys[i], n.Spots[i] = "z", span(-9, -9)
	}
	*n = api.Node{}
}

// TestOneByOne: what is done to one node, or item, changes no other one.
func TestOneByOne(t *testing.T) {
	for _, c := range documents {
		first, second := parse(t, c.s), parse(t, c.s)
		for i := range second.Nodes {
			spoil(&second.Nodes[i])
			if !reflect.DeepEqual(first.Nodes[i+1:], second.Nodes[i+1:]) {
				t.Errorf("%q: nodes share memory with the node %d", c.s, i)
			}
		}
		items, _ := ttrees.Items([]byte(c.s))
		others, _ := ttrees.Items([]byte(c.s))
		for i := range others {
			for j := range others[i].Key.Words {
				others[i].Key.Words[j], others[i].Key.Spans[j] = "z", span(-9, -9)
			}
			for j := range others[i].Tree.Nodes {
				spoil(&others[i].Tree.Nodes[j])
			}
			if !reflect.DeepEqual(items[i+1:], others[i+1:]) {
				t.Errorf("%q: items share memory with the item %d", c.s, i)
			}
		}
		if !reflect.DeepEqual(first, parse(t, c.s)) {
			t.Errorf("%q: calls share memory", c.s)
		}
	}
}
