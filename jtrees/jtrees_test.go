package jtrees_test

import (
	"encoding/json"
	"errors"
	"slices"
	"strconv"
	"strings"
	"testing"
	"unicode/utf8"
	"unsafe"

	"inarch/api"
	"inarch/decimals"
	"inarch/jtokens"
	"inarch/jtrees"
	"inarch/quotes"
)

func fault(code api.Code, at int) api.Fault { return api.Fault{Code: code, At: at} }

func span(from, to int) api.Span { return api.Span{From: from, To: to} }

func often(s string, many int) string { return strings.Repeat(s, many) }

// descent goes down into a document as the chapter's words say it, a call within a call for what stands within; beside the package's own way through it.
type descent struct {
	s      string
	tokens []jtokens.Token // those that are left, without blanks
	behind api.Fault       // behind all of them
	fault  api.Fault       // the first one
	nodes  []api.Node
}

// wanted is a document's tree, or what is wrong first.
func wanted(s string) (api.Tree, api.Fault) {
	if len(s) > api.MaxText {
		return api.Tree{}, fault(api.CoSize, api.MaxText)
	}
	for at := 0; at < len(s); {
		r, n := utf8.DecodeRuneInString(s[at:])
		if r == utf8.RuneError && n == 1 {
			return api.Tree{}, fault(api.CoUtf8, at)
		}
		at += n
	}
	tokens, f := jtokens.Read([]byte(s))
	d := descent{s: s, behind: f}
	d.tokens = slices.DeleteFunc(tokens, func(t jtokens.Token) bool { return t.Kind == jtokens.JtSpace })
	if f == (api.Fault{}) {
		d.behind = fault(api.CoSyntax, len(s))
	}
	if !d.value(0) || (len(d.tokens) > 0 || f != (api.Fault{})) && !d.unawaited() {
		return api.Tree{}, d.fault
	}
	return api.Tree{Nodes: d.nodes}, api.Fault{}
}

func (d *descent) fail(code api.Code, at int) bool {
	d.fault = fault(code, at)
	return false
}

// sees tells if the next token's bytes are these.
func (d *descent) sees(text string) bool {
	return len(d.tokens) > 0 && d.s[d.tokens[0].From:d.tokens[0].To] == text
}

// unawaited: what is next may not stand there, or there is nothing.
func (d *descent) unawaited() bool {
	if len(d.tokens) == 0 {
		d.fault = d.behind
		return false
	}
	return d.fail(api.CoSyntax, d.tokens[0].From)
}

func (d *descent) take() jtokens.Token {
	t := d.tokens[0]
	d.tokens = d.tokens[1:]
	return t
}

func (d *descent) value(depth int) bool {
	if len(d.tokens) == 0 || d.tokens[0].Kind == jtokens.JtMark && !d.sees("[") && !d.sees("{") {
		return d.unawaited()
	}
	deeper := d.tokens[0].Kind == jtokens.JtMark
	t := d.take()
	if deeper && depth == api.MaxDepth {
		return d.fail(api.CoDepth, t.From)
	}
	place := len(d.nodes)
	d.nodes = append(d.nodes, api.Node{})
	n := api.Node{Span: span(t.From, t.To)}
	ok := true
	switch text := d.s[t.From:t.To]; {
	case text == "[":
		n.Kind = api.VkList
		ok = d.list(&n, depth+1)
	case text == "{":
		n.Kind = api.VkMap
		ok = d.entries(&n, depth+1)
	case text == "true" || text == "false":
		n.Kind, n.Text = api.VkBool, text
	case t.Kind == jtokens.JtNum:
		var code api.Code
		n.Kind = api.VkNum
		n.Text, code = decimals.Read(text)
		if code != api.CoOK {
			return d.fail(code, t.From)
		}
	case t.Kind == jtokens.JtStr:
		n.Kind = api.VkStr
		n.Text, ok = d.runes(t)
	}
	d.nodes[place] = n
	return ok
}

// runes of a string.
func (d *descent) runes(t jtokens.Token) (string, bool) {
	text, f := quotes.Read(d.s[t.From:t.To])
	if f != (api.Fault{}) {
		return "", d.fail(f.Code, t.From+f.At)
	}
	return text, true
}

// sub is a value that stands in another one.
func (d *descent) sub(n *api.Node, depth int) bool {
	n.Subs = append(n.Subs, len(d.nodes))
	return d.value(depth)
}

// more parts, up to an end, with `,` between each two.
func (d *descent) more(n *api.Node, end string, part func() bool) bool {
	for !d.sees(end) {
		if len(n.Subs) > 0 {
			if !d.sees(",") {
				return d.unawaited()
			}
			d.take()
		}
		if !part() {
			return false
		}
	}
	n.Span.To = d.take().To
	return true
}

func (d *descent) list(n *api.Node, depth int) bool {
	return d.more(n, "]", func() bool { return d.sub(n, depth) })
}

func (d *descent) entries(n *api.Node, depth int) bool {
	return d.more(n, "}", func() bool {
		if len(d.tokens) == 0 || d.tokens[0].Kind != jtokens.JtStr {
			return d.unawaited()
		}
		t := d.take()
		key, ok := d.runes(t)
		if !ok {
			return false
		}
		if slices.Contains(n.Keys, key) {
			return d.fail(api.CoDup, t.From)
		}
		n.Keys = append(n.Keys, key)
		n.Spots = append(n.Spots, span(t.From, t.To))
		if !d.sees(":") {
			return d.unawaited()
		}
		d.take()
		return d.sub(n, depth)
	})
}

func sameNode(n, m api.Node) bool {
	return n.Kind == m.Kind && n.Text == m.Text && n.Span == m.Span && slices.Equal(n.Keys, m.Keys) && slices.Equal(n.Spots, m.Spots) && slices.Equal(n.Subs, m.Subs)
}

func same(t, u api.Tree) bool {
	return t.Root == u.Root && slices.EqualFunc(t.Nodes, u.Nodes, sameNode)
}

// look if a document's tree, or fault, is as the descent has it, and as the library has it.
func look(t *testing.T, s string) {
	t.Helper()
	tree, f := jtrees.Parse([]byte(s))
	want, wantFault := wanted(s)
	if !same(tree, want) || f != wantFault {
		t.Fatalf("%.100q: %v, %v, not %v, %v", s, tree, f, want, wantFault)
	}
	if f.Code == api.CoOK && !json.Valid([]byte(s)) || f.Code == api.CoSyntax && json.Valid([]byte(s)) {
		t.Fatalf("%.100q: %v, but the library's answer is %t", s, f, json.Valid([]byte(s)))
	}
}

// parsed is the tree of a document, which is to have no fault.
func parsed(t *testing.T, s string) api.Tree {
	t.Helper()
	tree, f := jtrees.Parse([]byte(s))
	if f != (api.Fault{}) {
		t.Fatalf("%.100q: %v", s, f)
	}
	return tree
}

// refused looks if a document has just this fault, and an empty tree.
func refused(t *testing.T, s string, want api.Fault) {
	t.Helper()
	tree, f := jtrees.Parse([]byte(s))
	if f != want || tree.Nodes != nil || tree.Root != 0 {
		t.Errorf("%.100q (%d bytes): %v, %d nodes, root %d, not %v", s, len(s), f, len(tree.Nodes), tree.Root, want)
	}
}

// some are documents of all kinds of values.
var some = []string{
	"null", "true", "false", "0", "-12.50e+3", `""`, `"aé\n\u00e9\ud83d\ude00"`, "[]", "{}", " [ ] ", "\t{\r\n}\n",
	` {"a": [1, 20e-1]} `, `[1, "a"]`, `{"a":{"a":{"a":[[[]]]}}}`, `[[],[[],{}],{"":[]},""]`,
	"{\"b\\u0041\": {\"c\":null},\r\n\t\"bA \" :[true,false,\"x\"], \"\": -0.0, \"é\":{}}",
}

// P9.1

func TestTrees(t *testing.T) {
	for _, c := range []struct {
		s     string
		nodes []api.Node
	}{
		{"null", []api.Node{{Kind: api.VkNull, Span: span(0, 4)}}},
		{"true", []api.Node{{Kind: api.VkBool, Text: "true", Span: span(0, 4)}}},
		{"\nfalse ", []api.Node{{Kind: api.VkBool, Text: "false", Span: span(1, 6)}}},
		{"  -0.50E1\t", []api.Node{{Kind: api.VkNum, Text: "-5e0", Span: span(2, 9)}}},
		{`"a\u00e9\"" `, []api.Node{{Kind: api.VkStr, Text: `aé"`, Span: span(0, 11)}}},
		{`""`, []api.Node{{Kind: api.VkStr, Span: span(0, 2)}}},
		{"\r\n[\t] ", []api.Node{{Kind: api.VkList, Span: span(2, 5)}}},
		{" { } ", []api.Node{{Kind: api.VkMap, Span: span(1, 4)}}},
		{` {"a": [1, 20e-1]} `, []api.Node{
			{Kind: api.VkMap, Keys: []string{"a"}, Spots: []api.Span{span(2, 5)}, Subs: []int{1}, Span: span(1, 18)},
			{Kind: api.VkList, Subs: []int{2, 3}, Span: span(7, 17)},
			{Kind: api.VkNum, Text: "1e0", Span: span(8, 9)},
			{Kind: api.VkNum, Text: "2e0", Span: span(11, 16)},
		}},
		{`[[null],"b",[[]]]`, []api.Node{
			{Kind: api.VkList, Subs: []int{1, 3, 4}, Span: span(0, 17)},
			{Kind: api.VkList, Subs: []int{2}, Span: span(1, 7)},
			{Kind: api.VkNull, Span: span(2, 6)},
			{Kind: api.VkStr, Text: "b", Span: span(8, 11)},
			{Kind: api.VkList, Subs: []int{5}, Span: span(12, 16)},
			{Kind: api.VkList, Span: span(13, 15)},
		}},
		{`{"b" : {"":1 }, "\u0061":{} ,"é":true}`, []api.Node{
			{Kind: api.VkMap, Keys: []string{"b", "a", "é"}, Spots: []api.Span{span(1, 4), span(16, 24), span(29, 33)}, Subs: []int{1, 3, 4}, Span: span(0, 39)},
			{Kind: api.VkMap, Keys: []string{""}, Spots: []api.Span{span(8, 10)}, Subs: []int{2}, Span: span(7, 14)},
			{Kind: api.VkNum, Text: "1e0", Span: span(11, 12)},
			{Kind: api.VkMap, Span: span(25, 27)},
			{Kind: api.VkBool, Text: "true", Span: span(34, 38)},
		}},
		{`[{"a":[{"a":"a"}]},{"a":0}]`, []api.Node{
			{Kind: api.VkList, Subs: []int{1, 5}, Span: span(0, 27)},
			{Kind: api.VkMap, Keys: []string{"a"}, Spots: []api.Span{span(2, 5)}, Subs: []int{2}, Span: span(1, 18)},
			{Kind: api.VkList, Subs: []int{3}, Span: span(6, 17)},
			{Kind: api.VkMap, Keys: []string{"a"}, Spots: []api.Span{span(8, 11)}, Subs: []int{4}, Span: span(7, 16)},
			{Kind: api.VkStr, Text: "a", Span: span(12, 15)},
			{Kind: api.VkMap, Keys: []string{"a"}, Spots: []api.Span{span(20, 23)}, Subs: []int{6}, Span: span(19, 26)},
			{Kind: api.VkNum, Text: "0", Span: span(24, 25)},
		}},
	} {
		tree, f := jtrees.Parse([]byte(c.s))
		if !same(tree, api.Tree{Nodes: c.nodes}) || f != (api.Fault{}) {
			t.Errorf("%q: %v, %v", c.s, tree, f)
		}
		look(t, c.s)
	}
}

// TestTexts: of a value of one token, wherever it stands; no other texts are in the tree.
func TestTexts(t *testing.T) {
	for _, c := range []struct {
		s    string
		kind api.Kind
		text string
	}{
		{"null", api.VkNull, ""}, {"true", api.VkBool, "true"}, {"false", api.VkBool, "false"},
		{"0", api.VkNum, "0"}, {"-0", api.VkNum, "0"}, {"-0.0e7", api.VkNum, "0"}, {"1", api.VkNum, "1e0"}, {"1200", api.VkNum, "12e2"}, {"-1.20", api.VkNum, "-12e-1"}, {"1E+2", api.VkNum, "1e2"}, {"123456789012345678901234567890", api.VkNum, "12345678901234567890123456789e1"},
		{"1e1000000000", api.VkNum, "1e1000000000"}, {"-1e-1000000000", api.VkNum, "-1e-1000000000"}, {"0e1000000000", api.VkNum, "0"},
		{`""`, api.VkStr, ""}, {`"null"`, api.VkStr, "null"}, {`" a "`, api.VkStr, " a "}, {`"\"\\\/\b\f\n\r\t"`, api.VkStr, "\"\\/\b\f\n\r\t"}, {`"\u0000\u00E9\u20ac"`, api.VkStr, "\x00é€"}, {`"\ud83d\ude00😀"`, api.VkStr, "😀😀"}, {`"[1,{}:]"`, api.VkStr, "[1,{}:]"}, {"\"\x7f\uFEFF\"", api.VkStr, "\x7f\uFEFF"},
	} {
		for _, around := range [][2]string{{"", ""}, {"\n ", " \t"}, {"[", "]"}, {"[[0], ", ",1]"}, {`{"a":`, `}`}, {"{\"a\" : null,\"b\" :\r", " }"}, {often("[", 256), often("]", 256)}} {
			s := around[0] + c.s + around[1]
			met := 0
			for _, n := range parsed(t, s).Nodes {
				if n.Span == span(len(around[0]), len(around[0])+len(c.s)) {
					met++
					if n.Kind != c.kind || n.Text != c.text || len(n.Keys)+len(n.Spots)+len(n.Subs) != 0 {
						t.Errorf("%.100q: %v", s, n)
					}
				} else if n.Kind >= api.VkList && n.Text != "" {
					t.Errorf("%.100q: %v", s, n)
				}
			}
			if met != 1 {
				t.Errorf("%.100q: %d nodes of it", s, met)
			}
		}
	}
}

func TestFaults(t *testing.T) {
	for _, c := range []struct {
		s    string
		code api.Code
		at   int
	}{
		// Not whole.
		{"", api.CoSyntax, 0}, {" \r\n\t", api.CoSyntax, 4}, {"[", api.CoSyntax, 1}, {"[ ", api.CoSyntax, 2}, {"[1", api.CoSyntax, 2}, {"[1 ", api.CoSyntax, 3}, {"[1,", api.CoSyntax, 3}, {"[[1]", api.CoSyntax, 4}, {"[{}", api.CoSyntax, 3},
		{"{", api.CoSyntax, 1}, {`{"a"`, api.CoSyntax, 4}, {`{"a" `, api.CoSyntax, 5}, {`{"a":`, api.CoSyntax, 5}, {`{"a":1`, api.CoSyntax, 6}, {`{"a":1,`, api.CoSyntax, 7}, {`{"a":{}`, api.CoSyntax, 7}, {`{"a":[]`, api.CoSyntax, 7},
		// May not stand there.
		{"]", api.CoSyntax, 0}, {"}", api.CoSyntax, 0}, {",", api.CoSyntax, 0}, {":", api.CoSyntax, 0}, {" ]", api.CoSyntax, 1},
		{"1 2", api.CoSyntax, 2}, {"01", api.CoSyntax, 1}, {"1,", api.CoSyntax, 1}, {"1]", api.CoSyntax, 1}, {"1}", api.CoSyntax, 1}, {`"a":1`, api.CoSyntax, 3}, {`"a""b"`, api.CoSyntax, 3}, {"[]]", api.CoSyntax, 2}, {"{}}", api.CoSyntax, 2}, {"{} {}", api.CoSyntax, 3}, {"[],", api.CoSyntax, 2}, {"null null", api.CoSyntax, 5}, {"[1][", api.CoSyntax, 3},
		{"[,", api.CoSyntax, 1}, {"[:", api.CoSyntax, 1}, {"[}", api.CoSyntax, 1}, {"[,1]", api.CoSyntax, 1}, {"[1,]", api.CoSyntax, 3}, {"[1,,2]", api.CoSyntax, 3}, {"[1,:]", api.CoSyntax, 3}, {"[1,}", api.CoSyntax, 3}, {"[1}", api.CoSyntax, 2}, {"[1:2]", api.CoSyntax, 2}, {"[1 2]", api.CoSyntax, 3}, {"[1[]]", api.CoSyntax, 2}, {"[1{}]", api.CoSyntax, 2}, {`["a":1]`, api.CoSyntax, 4}, {`["a""b"]`, api.CoSyntax, 4}, {"[[]1]", api.CoSyntax, 3}, {"[{}}", api.CoSyntax, 3},
		{"{,", api.CoSyntax, 1}, {"{:", api.CoSyntax, 1}, {"{]", api.CoSyntax, 1}, {"{1", api.CoSyntax, 1}, {"{null:1}", api.CoSyntax, 1}, {"{[", api.CoSyntax, 1}, {"{{", api.CoSyntax, 1}, {`{"a",`, api.CoSyntax, 4}, {`{"a"}`, api.CoSyntax, 4}, {`{"a"]`, api.CoSyntax, 4}, {`{"a" 1}`, api.CoSyntax, 5}, {`{"a""b"}`, api.CoSyntax, 4}, {`{"a"{}}`, api.CoSyntax, 4}, {`{"a"[]}`, api.CoSyntax, 4}, {`{"a"null}`, api.CoSyntax, 4},
		{`{"a":}`, api.CoSyntax, 5}, {`{"a":]`, api.CoSyntax, 5}, {`{"a":,`, api.CoSyntax, 5}, {`{"a"::1}`, api.CoSyntax, 5}, {`{"a":1:2}`, api.CoSyntax, 6}, {`{"a":1 "b":2}`, api.CoSyntax, 7}, {`{"a":1]`, api.CoSyntax, 6}, {`{"a":1,}`, api.CoSyntax, 7}, {`{"a":1,]`, api.CoSyntax, 7}, {`{"a":1,,`, api.CoSyntax, 7}, {`{"a":1,:`, api.CoSyntax, 7}, {`{"a":1,2:3}`, api.CoSyntax, 7}, {`{"a":1,[]}`, api.CoSyntax, 7}, {`{"a":1,{}}`, api.CoSyntax, 7}, {`{"a":1,null}`, api.CoSyntax, 7}, {`{"a":"b":1}`, api.CoSyntax, 8}, {`{"a":"b""c"}`, api.CoSyntax, 8}, {`{"a":[}]`, api.CoSyntax, 6}, {`{"a":{]}`, api.CoSyntax, 6}, {`{"a":{}]`, api.CoSyntax, 7},
		// Tokens' own.
		{"@", api.CoSyntax, 0}, {"-", api.CoSyntax, 1}, {"[-]", api.CoSyntax, 2}, {"tru", api.CoSyntax, 0}, {"[nul]", api.CoSyntax, 1}, {"1.", api.CoSyntax, 1}, {"[1e]", api.CoSyntax, 2}, {"+1", api.CoSyntax, 0}, {"'a'", api.CoSyntax, 0}, {"// a", api.CoSyntax, 0}, {"[1] // a", api.CoSyntax, 4}, {"\uFEFF1", api.CoSyntax, 0}, {"\u00a01", api.CoSyntax, 0}, {"NaN", api.CoSyntax, 0},
		{`"a`, api.CoSyntax, 2}, {`{"a`, api.CoSyntax, 3}, {`["\x"]`, api.CoSyntax, 3}, {`["\u00g0"]`, api.CoSyntax, 6}, {"[\"a\nb\"]", api.CoSyntax, 3}, {`{"a":1,"\`, api.CoSyntax, 9},
		// Strings' own.
		{`"\ud800"`, api.CoSurrogate, 1}, {`"é\n\uDFFF"`, api.CoSurrogate, 5}, {`["a", "b\ud83d\u0041"]`, api.CoSurrogate, 8}, {`"\ude00\ud83d"`, api.CoSurrogate, 1}, {`"\ud83d\ude00\ud83d"`, api.CoSurrogate, 13}, {`{"\ud800":1}`, api.CoSurrogate, 2}, {`{"a":1, "a\udc00":1}`, api.CoSurrogate, 10}, {`{"a":"\udbff"}`, api.CoSurrogate, 6},
		// Numbers' own.
		{"1e1000000001", api.CoExponent, 0}, {" -1e-1000000001", api.CoExponent, 1}, {"[10e1000000000]", api.CoExponent, 1}, {"[1,0.1e-1000000000]", api.CoExponent, 3}, {"0e1000000001", api.CoExponent, 0}, {`{"a": 1e99999999999999999999}`, api.CoExponent, 6},
		// Keys twice.
		{`{"a":1,"a":2}`, api.CoDup, 7}, {`{"a":1, "a"`, api.CoDup, 8}, {`{"a":1,"a`, api.CoSyntax, 9}, {`{"a":{"a":1},"a"`, api.CoDup, 13}, {`{"":1,"":1}`, api.CoDup, 6}, {`{"a":1,"b":2,"\u0061":3}`, api.CoDup, 13}, {`{"\u00E9":1,"é":3}`, api.CoDup, 12}, {`{"\/":1,"/":3}`, api.CoDup, 8}, {`{"\n":1,"\u000a":3}`, api.CoDup, 8}, {`{"😀":1,"\ud83d\uDE00":3}`, api.CoDup, 10}, {`[{"a":1},{"a":1,"a"`, api.CoDup, 16}, {`{"b":{"c":{"d":1,"d"`, api.CoDup, 17}, {`{"a":[{"b":1}],"b":[],"a"`, api.CoDup, 22},
	} {
		refused(t, c.s, fault(c.code, c.at))
		look(t, c.s)
		refused(t, "\n\t "+c.s, fault(c.code, c.at+3))
		if c.code != api.CoSyntax || c.at < len(c.s) {
			refused(t, c.s+" ", fault(c.code, c.at))
			refused(t, c.s+"\n@", fault(c.code, c.at))
		}
	}
}

// TestKeysThatAreNotOne: keys are held against each other by their runes, of one map alone.
func TestKeysThatAreNotOne(t *testing.T) {
	for _, s := range []string{
		`{"a":1,"A":2}`, `{"a":1,"a ":2}`, `{"":1,"\u0000":2}`, `{"\u00e9":1,"e\u0301":2}`, `{"\\n":1,"\n":2}`, `{"1":1,"1e0":2,"01":3}`, `{"a":{"a":{"a":1},"b":2},"b":{"a":{},"b":{}}}`, `[{"a":1},{"a":1}]`, `{"a":"b","b":"a"}`, `{"a":["a","a"]}`, `{"\ufffd":1,"\uFFFE":2}`, `{"b":{"c":1},"c":{"b":1}}`,
	} {
		look(t, s)
		parsed(t, s)
	}
}

// TestWhatIsToldFirst: of several faults.
func TestWhatIsToldFirst(t *testing.T) {
	long := often(" ", api.MaxText+1)
	refused(t, "\xFF@"+long, fault(api.CoSize, api.MaxText))
	refused(t, long+"\xFF", fault(api.CoSize, api.MaxText))
	for _, c := range []struct {
		s    string
		code api.Code
		at   int
	}{
		{"[@ \xFF", api.CoUtf8, 3}, {"1 2 \"\xC3", api.CoUtf8, 5}, {`{"a":1,"a":2}` + "\x80", api.CoUtf8, 13}, {"\"\xED\xA0\x80\"", api.CoUtf8, 1}, {"\"\xC0\x80\xFF\"", api.CoUtf8, 1}, {"\"é\xE2\x82", api.CoUtf8, 3}, {"\xEF\xBB", api.CoUtf8, 0}, {often("[", 300) + "\xF5", api.CoUtf8, 300}, {"1e1000000001\xFF", api.CoUtf8, 12}, {`"\ud800` + "\xFF", api.CoUtf8, 7},
		// A token's own fault, and that it may not stand there.
		{"1 -", api.CoSyntax, 3}, {`1 "\x"`, api.CoSyntax, 4}, {`["a" "b`, api.CoSyntax, 7}, {"{-", api.CoSyntax, 2}, {"{1e", api.CoSyntax, 1},
		// That it may not stand there, and what is wrong in it.
		{`1 "\ud800"`, api.CoSyntax, 2}, {`{"a" "\ud800"`, api.CoSyntax, 5}, {`["a""\udc00"]`, api.CoSyntax, 4}, {"{1e1000000001", api.CoSyntax, 1}, {"1 1e1000000001", api.CoSyntax, 2}, {`{"a"1e1000000001`, api.CoSyntax, 4}, {`{"a":1 "a"`, api.CoSyntax, 7}, {`{"a":1,"b" "a"`, api.CoSyntax, 11},
		{often("[", 256) + "1[", api.CoSyntax, 257}, {often("[", 256) + "],[[", api.CoDepth, 259}, {often(`{"a":`, 255) + "{{", api.CoSyntax, 255*5 + 1},
		// A string's token that has no end, and what would be wrong in it.
		{`"\ud800`, api.CoSyntax, 7}, {`"\ud800\x"`, api.CoSyntax, 8}, {`{"a":1,"\u0061`, api.CoSyntax, 14},
		// What is wrong first, token by token.
		{`["\ud800",1e1000000001,@`, api.CoSurrogate, 2}, {`[1e1000000001,"\ud800"]]`, api.CoExponent, 1}, {`{"a":1e1000000001,"a":1}`, api.CoExponent, 5}, {`{"a":1,"a":1e1000000001}`, api.CoDup, 7}, {`{"a":1,"a"}`, api.CoDup, 7}, {`{"a":1,"a" "\ud800"`, api.CoDup, 7}, {`{"a":1,"\ud800":1,"a":1}`, api.CoSurrogate, 8}, {"[1 2 @", api.CoSyntax, 3}, {often("[", 257) + "@", api.CoDepth, 256}, {often("[", 256) + "@[", api.CoSyntax, 256}, {`{"a":1,"a":` + often("[", 256), api.CoDup, 7},
	} {
		refused(t, c.s, fault(c.code, c.at))
		look(t, c.s)
	}
}

func TestSize(t *testing.T) {
	for _, s := range []string{"1" + often(" ", api.MaxText-1), often("\n", api.MaxText-2) + "[]", `"` + often("a", api.MaxText-2) + `"`, often("7", api.MaxText)} {
		if tree := parsed(t, s); len(tree.Nodes) != 1 {
			t.Errorf("%.20q: %d nodes", s, len(tree.Nodes))
		}
		refused(t, s+" ", fault(api.CoSize, api.MaxText))
		refused(t, s[:api.MaxText-1]+"\xFF", fault(api.CoUtf8, api.MaxText-1))
	}
	refused(t, often(" ", api.MaxText), fault(api.CoSyntax, api.MaxText))
	refused(t, often(" ", 2*api.MaxText), fault(api.CoSize, api.MaxText))
}

func TestDepth(t *testing.T) {
	const most = api.MaxDepth
	for _, c := range []struct{ begin, end string }{{"[", "]"}, {`{"a":`, "}"}, {`[0,`, "]"}, {` {"b" :1, "a":`, ",\"c\":{}\n}"}} {
		for _, inner := range []string{"null", "1", `"[["`, "[]", "{}", "[1]", `{"a":1}`} {
			begin, end := often(c.begin, most-1), often(c.end, most-1)
			look(t, begin+inner+end)
			parsed(t, begin+inner+end)
			deeper := often(c.begin, most)
			if inner[0] == '[' || inner[0] == '{' {
				refused(t, deeper+inner, fault(api.CoDepth, len(deeper)))
			} else if c.begin != ` {"b" :1, "a":` {
				parsed(t, deeper+inner+often(c.end, most))
			}
		}
	}
	// What has ended counts no more.
	parsed(t, "["+often(often("[", most-1)+often("]", most-1)+",", 3)+often("[", most-1)+often("]", most-1)+"]")
	refused(t, often("[", most-1)+"[],{},[[", fault(api.CoDepth, most+6))
	for _, s := range []string{often("[", most+1), often(`{"":`, most) + "{", often(`[{"":`, most/2) + "["} {
		refused(t, s, fault(api.CoDepth, len(s)-1))
	}
	refused(t, often("[", most), fault(api.CoSyntax, most))
	refused(t, often("[", 1000000), fault(api.CoDepth, most))
	refused(t, often(`{"a":`, 1000000), fault(api.CoDepth, 5*most))
}

// everySequence hands on all texts of up to so many of the parts.
func everySequence(parts []string, most int, look func(s string)) {
	look("")
	if most == 0 {
		return
	}
	for _, part := range parts {
		everySequence(parts, most-1, func(s string) { look(part + s) })
	}
}

func TestEverySequence(t *testing.T) {
	everySequence([]string{"[", "]", "{", "}", ",", ":", `"a"`, "1"}, 5, func(s string) { look(t, s) })
	parts := []string{"[", "]", "{", "}", ",", ":", `"a"`, `"\u0061"`, `"\ud800"`, "1e1000000001", "null ", "-", "\xFF", " "}
	for _, ahead := range []string{"", `{"a":1,`, `{"b":[{"a":{}`, `[0,{"b":"a"`, often("[", 255)} {
		everySequence(parts, 3, func(s string) {
			look(t, ahead+s)
			look(t, ahead+s+"]")
			look(t, ahead+s+"}")
			look(t, ahead+s+":1}")
		})
	}
}

// TestFirstWrongTokens: of whole tokens, the library finds the first wrong byte where the first wrong token begins, or the text ends.
func TestFirstWrongTokens(t *testing.T) {
	met := 0
	everySequence([]string{" [", " ]", " {", " }", " ,", " :", ` "a"`, " 1", " null"}, 5, func(s string) {
		_, f := jtrees.Parse([]byte(s))
		var wrong *json.SyntaxError
		var x any
		if !errors.As(json.Unmarshal([]byte(s), &x), &wrong) {
			if f.Code == api.CoSyntax {
				t.Fatalf("%q: %v, but the library finds nothing", s, f)
			}
			return
		}
		at := int(wrong.Offset) - 1
		if strings.HasPrefix(wrong.Error(), "unexpected end") {
			at = len(s)
		}
		if f != fault(api.CoSyntax, at) {
			t.Fatalf("%q: %v, but the library says %v, at %d", s, f, wrong, at)
		}
		met++
	})
	if met < 10000 {
		t.Errorf("only %d texts", met)
	}
}

// TestEveryByte sets each byte at each place, ahead of what stands there, and in its stead; and ends, and goes on, at each one.
func TestEveryByte(t *testing.T) {
	for _, s := range some {
		for at := range len(s) + 1 {
			look(t, s[:at])
			look(t, s[at:])
			for c := range 256 {
				b := string([]byte{byte(c)})
				look(t, s[:at]+b+s[at:])
				if at < len(s) {
					look(t, s[:at]+b+s[at+1:])
				}
			}
		}
	}
}

// says is what a node's value says to the library.
func says(tree api.Tree, node int) any {
	n := tree.Nodes[node]
	switch n.Kind {
	case api.VkBool:
		return n.Text == "true"
	case api.VkNum:
		return json.Number(n.Text)
	case api.VkStr:
		return n.Text
	case api.VkList:
		l := []any{}
		for _, sub := range n.Subs {
			l = append(l, says(tree, sub))
		}
		return l
	case api.VkMap:
		m := map[string]any{}
		for i, sub := range n.Subs {
			m[n.Keys[i]] = says(tree, sub)
		}
		return m
	}
	return nil
}

// TestWhatTheLibraryReads: of a document is what its tree says.
func TestWhatTheLibraryReads(t *testing.T) {
	written := func(x any) string {
		b, err := json.Marshal(x)
		if err != nil {
			t.Fatal(err)
		}
		return string(b)
	}
	for _, s := range append([]string{`{"<>&":"\u2028é😀","a":{"":[null,{},[true]]}}`, "[[], {}, [{}], \"a b\", -7e-1, 5e0 ]\n"}, some...) {
		d := json.NewDecoder(strings.NewReader(s))
		d.UseNumber()
		var x any
		if err := d.Decode(&x); err != nil {
			t.Fatal(err)
		}
		if got, want := written(says(parsed(t, s), 0)), written(normal(x)); got != want {
			t.Errorf("%q: %s, not %s", s, got, want)
		}
	}
}

// normal is what the library reads, with numbers' normal forms.
func normal(x any) any {
	switch y := x.(type) {
	case json.Number:
		text, _ := decimals.Read(string(y))
		return json.Number(text)
	case []any:
		for i := range y {
			y[i] = normal(y[i])
		}
	case map[string]any:
		for key := range y {
			y[key] = normal(y[key])
		}
	}
	return x
}

func TestLongDocuments(t *testing.T) {
	const many = 200000
	list := parsed(t, "[0"+often(",[]", many)+"]")
	if len(list.Nodes) != many+2 || len(list.Nodes[0].Subs) != many+1 {
		t.Errorf("%d nodes, %d in the list", len(list.Nodes), len(list.Nodes[0].Subs))
	}
	for i, sub := range list.Nodes[0].Subs {
		if sub != i+1 {
			t.Fatalf("element %d is node %d", i, sub)
		}
	}
	var b strings.Builder
	for i := range many {
		b.WriteString(`"k` + strconv.Itoa(i) + `":0,`)
	}
	begun := "{" + b.String()
	n := parsed(t, begun+`"":1}`).Nodes[0]
	if len(n.Keys) != many+1 || len(n.Spots) != many+1 || len(n.Subs) != many+1 || n.Keys[many-1] != "k"+strconv.Itoa(many-1) {
		t.Errorf("%d keys, %d spots, %d in the map", len(n.Keys), len(n.Spots), len(n.Subs))
	}
	for _, key := range []string{`"k0"`, `"k77777"`, `"\u006b199999"`} {
		refused(t, begun+key+":1}", fault(api.CoDup, len(begun)))
	}
	refused(t, "["+often("1,", many)+"]", fault(api.CoSyntax, 1+2*many))
}

// P9.2

// part of a tree: a node, and those that stand in it, as they are if its span's text is all.
func part(tree api.Tree, node int) api.Tree {
	from := tree.Nodes[node].Span.From
	moved := func(s api.Span) api.Span { return span(s.From-from, s.To-from) }
	var part api.Tree
	for _, n := range tree.Nodes[node:] {
		if n.Span.From >= tree.Nodes[node].Span.To {
			break
		}
		n.Span = moved(n.Span)
		n.Spots, n.Subs = slices.Clone(n.Spots), slices.Clone(n.Subs)
		for i := range n.Spots {
			n.Spots[i] = moved(n.Spots[i])
		}
		for i := range n.Subs {
			n.Subs[i] -= node
		}
		part.Nodes = append(part.Nodes, n)
	}
	return part
}

func TestSpansAreDocuments(t *testing.T) {
	for _, s := range some {
		tree := parsed(t, s)
		for i, n := range tree.Nodes {
			alone := s[n.Span.From:n.Span.To]
			if got := parsed(t, alone); !same(got, part(tree, i)) {
				t.Errorf("%q, alone: %v, not %v", alone, got, part(tree, i))
			}
		}
	}
}

// spaced has blanks ahead of each token, and behind the last one.
func spaced(s string, blanks ...string) string {
	tokens, _ := jtokens.Read([]byte(s))
	var b strings.Builder
	for i, x := range tokens {
		if x.Kind != jtokens.JtSpace {
			b.WriteString(blanks[i%len(blanks)] + s[x.From:x.To])
		}
	}
	return b.String() + blanks[0]
}

// bytesOf are those of a tree's keys and of its values of one token, as they stand.
func bytesOf(s string, tree api.Tree) []string {
	var l []string
	for _, n := range tree.Nodes {
		for _, spot := range n.Spots {
			l = append(l, s[spot.From:spot.To])
		}
		if n.Kind < api.VkList {
			l = append(l, s[n.Span.From:n.Span.To])
		} else {
			l = append(l, s[n.Span.From:n.Span.From+1], s[n.Span.To-1:n.Span.To])
		}
	}
	return l
}

func TestBlanksChangeSpansAlone(t *testing.T) {
	for _, s := range some {
		tree := parsed(t, s)
		for _, blanks := range [][]string{{""}, {" "}, {"\t", "", "\n"}, {"", "\r\n"}, {" \t\r\n \n", "\n\n"}} {
			other := spaced(s, blanks...)
			look(t, other)
			got := parsed(t, other)
			if !slices.Equal(bytesOf(other, got), bytesOf(s, tree)) {
				t.Errorf("%q: %q, not %q", other, bytesOf(other, got), bytesOf(s, tree))
			}
			for i, n := range got.Nodes {
				m := tree.Nodes[i]
				n.Span, n.Spots = m.Span, m.Spots
				if !sameNode(n, m) {
					t.Errorf("%q: node %d is %v, of %q %v", other, i, n, s, m)
				}
			}
		}
	}
}

// TestNodesStandInOrder: as they begin, each one but the root within just one other one, which has it behind what is ahead of it there.
func TestNodesStandInOrder(t *testing.T) {
	for _, s := range append([]string{"[" + strings.Join(some, ",") + "]"}, some...) {
		tree := parsed(t, s)
		in := map[int]int{}
		for i, n := range tree.Nodes {
			if i > 0 && n.Span.From <= tree.Nodes[i-1].Span.From {
				t.Errorf("%q: node %d begins ahead of the one ahead of it", s, i)
			}
			at := n.Span.From + 1
			for j, sub := range n.Subs {
				in[sub]++
				if n.Kind == api.VkMap {
					if n.Spots[j].From < at || n.Spots[j].To > tree.Nodes[sub].Span.From {
						t.Errorf("%q: key %d of node %d stands at %v", s, j, i, n.Spots[j])
					}
					at = n.Spots[j].To + 1
				}
				if tree.Nodes[sub].Span.From < at || tree.Nodes[sub].Span.To >= n.Span.To {
					t.Errorf("%q: node %d stands at %v, in %v", s, sub, tree.Nodes[sub].Span, n.Span)
				}
				at = tree.Nodes[sub].Span.To
			}
		}
		for i := range tree.Nodes {
			if in[i] != min(i, 1) {
				t.Errorf("%q: node %d stands in %d others", s, i, in[i])
			}
		}
		if tree.Root != 0 || len(in) != len(tree.Nodes)-1 {
			t.Errorf("%q: root %d, %d nodes in others, of %d", s, tree.Root, len(in), len(tree.Nodes))
		}
	}
}

// R1 and R4

func TestNothing(t *testing.T) {
	for _, b := range [][]byte{nil, {}, make([]byte, 0, 9)} {
		if tree, f := jtrees.Parse(b); tree.Nodes != nil || tree.Root != 0 || f != fault(api.CoSyntax, 0) {
			t.Error(tree, f)
		}
	}
}

func TestNothingIsChangedOrLookedAtBehind(t *testing.T) {
	for _, s := range append([]string{`[1, "a`, `{"\ud800":1}`, "[1,", "-", `{"a":1,"a":2}`}, some...) {
		b := []byte(s)
		room := append([]byte(s), `0]}"e5 `...)
		for _, x := range [][]byte{b, room[:len(s)]} {
			tree, f := jtrees.Parse(x)
			if want, wantFault := wanted(s); !same(tree, want) || f != wantFault {
				t.Errorf("%q: %v, %v, not %v, %v", s, tree, f, want, wantFault)
			}
		}
		if string(b) != s || string(room) != s+`0]}"e5 ` {
			t.Errorf("%q: %q, %q", s, b, room)
		}
	}
}

// rooms looks if lists have nothing in their room behind.
func rooms(t *testing.T, s string, tree api.Tree) {
	t.Helper()
	if cap(tree.Nodes) != len(tree.Nodes) {
		t.Errorf("%.60q: %d nodes, room for %d", s, len(tree.Nodes), cap(tree.Nodes))
	}
	for i, n := range tree.Nodes {
		if cap(n.Keys) != len(n.Keys) || cap(n.Spots) != len(n.Spots) || cap(n.Subs) != len(n.Subs) {
			t.Errorf("%.60q: node %d: room behind %d keys, %d spots or %d in it", s, i, len(n.Keys), len(n.Spots), len(n.Subs))
		}
	}
}

func TestAnswersAreTheirOwn(t *testing.T) {
	for _, s := range append([]string{`[1,2,3,[1,2,3,4,5],{"a":1,"b":2,"c":3,"d":4,"e":5},{}]`}, some...) {
		b := []byte(s)
		one, _ := jtrees.Parse(b)
		other, _ := jtrees.Parse(b)
		rooms(t, s, one)
		if unsafe.SliceData(one.Nodes) == unsafe.SliceData(other.Nodes) {
			t.Errorf("%q: two answers are one list", s)
		}
		for _, n := range other.Nodes {
			clear(n.Keys)
			clear(n.Spots)
			clear(n.Subs)
		}
		clear(other.Nodes)
		clear(b)
		if want, _ := wanted(s); !same(one, want) {
			t.Errorf("%q: an answer has changed: %v", s, one)
		}
	}
}
