package tvalues_test

import (
	"regexp"
	"slices"
	"strconv"
	"strings"
	"testing"
	"unsafe"

	"inarch/api"
	"inarch/dates"
	"inarch/floats"
	"inarch/ints"
	"inarch/tkeys"
	"inarch/tquotes"
	"inarch/tvalues"
)

const most = int(^uint(0) >> 1)

func span(from, to int) api.Span { return api.Span{From: from, To: to} }

func fault(code api.Code, at int) api.Fault { return api.Fault{Code: code, At: at} }

func often(s string, many int) string { return strings.Repeat(s, many) }

// The grammar of what has no parts, as the chapters' words say it.
var (
	blanksHere  = regexp.MustCompile(`^[\t ]*`)
	commentHere = regexp.MustCompile(`^(?:#[^\x00-\x08\x0A-\x1F\x7F]*)?`)
	gapHere     = regexp.MustCompile(`^(?:[\t \n]|\r\n|#[^\x00-\x08\x0A-\x1F\x7F]*)*`)
	tokenHere   = regexp.MustCompile(`^[a-zA-Z0-9+_.-]*`)
	dateHere    = regexp.MustCompile(`^(?:[0-9]{4}-[0-9]{2}-[0-9]{2}(?:[Tt ]` + timeText + `(?:[Zz]|[+-][0-9]{2}:[0-9]{2})?)?|` + timeText + `)`)
	intAlone    = regexp.MustCompile(`^(?:[+-]?(?:0|[1-9](?:_?[0-9])*)|0x[0-9a-fA-F](?:_?[0-9a-fA-F])*|0o[0-7](?:_?[0-7])*|0b[01](?:_?[01])*)$`)
	floatAlone  = regexp.MustCompile(`^[+-]?(?:inf|nan|(?:0|[1-9](?:_?[0-9])*)(?:\.` + digitsText + `(?:[eE][+-]?` + digitsText + `)?|[eE][+-]?` + digitsText + `))$`)
)

const (
	timeText   = `[0-9]{2}:[0-9]{2}:[0-9]{2}(?:\.[0-9]+)?`
	digitsText = `[0-9](?:_?[0-9])*`
)

// thing is a value as the walk has it.
type thing struct {
	kind  api.Kind
	text  string
	keys  []string
	spots []api.Span
	subs  []*thing
	span  api.Span
	deep  int
	open  bool // to dotted keys
}

// walk goes through a value with a stack of what has no end yet, in steps; beside the package's own way through it.
type walk struct {
	s      string
	at     int
	around int
	stack  []*thing // lists and tables, the outermost one first
	holder *thing   // what the next value stands in: the innermost one, or what a key's dots lead to
	root   *thing
	fault  api.Fault
	step   func(w *walk) bool // nil: the value has ended
}

// wanted of a text, from a place on.
func wanted(s string, at, around int) (v *thing, end int, f api.Fault) {
	if at < 0 || at > len(s) {
		return nil, 0, fault(api.CoSyntax, 0)
	}
	w := &walk{s: s, at: at, around: max(around, 0), step: (*walk).value}
	for w.step != nil {
		if !w.step(w) {
			return nil, 0, w.fault
		}
	}
	return w.root, w.at, api.Fault{}
}

func (w *walk) fail(code api.Code, at int) bool {
	w.fault = fault(code, at)
	return false
}

// sees tells if one of these bytes is next.
func (w *walk) sees(bytes string) bool {
	return w.at < len(w.s) && strings.IndexByte(bytes, w.s[w.at]) >= 0
}

func (w *walk) innermost() *thing { return w.stack[len(w.stack)-1] }

// space that may stand within what is innermost; false, if its bytes are wrong.
func (w *walk) space() bool {
	if w.innermost().kind == api.VkMap {
		w.at += len(blanksHere.FindString(w.s[w.at:]))
		return true
	}
	w.at += len(gapHere.FindString(w.s[w.at:]))
	if w.sees("\r") {
		return w.fail(api.CoSyntax, w.at+1)
	}
	return true
}

func (w *walk) value() bool {
	switch {
	case w.sees("[{"):
		return w.begin()
	case w.sees(`"'`):
		text, end, f := tquotes.Read(w.s, w.at)
		if f.Code != api.CoOK {
			return w.fail(f.Code, f.At)
		}
		return w.leaf(api.VkStr, text, api.CoOK, end-w.at)
	}
	if date := dateHere.FindString(w.s[w.at:]); date != "" {
		text, code := dates.Read(date)
		return w.leaf(api.VkDate, text, code, len(date))
	}
	switch token := tokenHere.FindString(w.s[w.at:]); {
	case token == "true" || token == "false":
		return w.leaf(api.VkBool, token, api.CoOK, len(token))
	case intAlone.MatchString(token):
		text, code := ints.Read(token)
		return w.leaf(api.VkInt, text, code, len(token))
	case floatAlone.MatchString(token):
		text, code := floats.Read(token)
		return w.leaf(api.VkFloat, text, code, len(token))
	}
	return w.fail(api.CoSyntax, w.at)
}

func (w *walk) hang(v *thing) {
	if w.root == nil {
		w.root = v
		return
	}
	w.holder.subs = append(w.holder.subs, v)
}

func (w *walk) leaf(kind api.Kind, text string, code api.Code, many int) bool {
	if code != api.CoOK {
		return w.fail(code, w.at)
	}
	w.hang(&thing{kind: kind, text: text, span: span(w.at, w.at+many)})
	w.at += many
	return w.goOn()
}

func (w *walk) begin() bool {
	deep := w.around
	if len(w.stack) > 0 {
		deep = w.holder.deep
	}
	if deep >= api.MaxDepth {
		return w.fail(api.CoDepth, w.at)
	}
	v := &thing{kind: api.VkList, span: span(w.at, 0), deep: deep + 1}
	w.step = (*walk).elementOrEnd
	if w.sees("{") {
		v.kind = api.VkMap
		w.step = (*walk).keyOrEnd
	}
	w.hang(v)
	w.stack = append(w.stack, v)
	w.holder = v
	w.at++
	return true
}

// goOn behind a value.
func (w *walk) goOn() bool {
	w.step = nil
	if len(w.stack) > 0 {
		w.holder = w.innermost()
		w.step = (*walk).commaOrEnd
	}
	return true
}

func (w *walk) end() bool {
	w.at++
	w.innermost().span.To = w.at
	w.stack = w.stack[:len(w.stack)-1]
	return w.goOn()
}

func (w *walk) elementOrEnd() bool {
	switch {
	case !w.space():
		return false
	case w.sees("]"):
		return w.end()
	}
	return w.value()
}

func (w *walk) commaOrEnd() bool {
	if !w.space() {
		return false
	}
	list := w.innermost().kind == api.VkList
	switch {
	case list && w.sees("]"), !list && w.sees("}"):
		return w.end()
	case !w.sees(","):
		return w.fail(api.CoSyntax, w.at)
	}
	w.at++
	w.step = (*walk).key
	if list {
		w.step = (*walk).elementOrEnd
	}
	return true
}

func (w *walk) keyOrEnd() bool {
	if w.space(); w.sees("}") {
		return w.end()
	}
	return w.key()
}

func (w *walk) key() bool {
	w.space()
	k, end, f := tkeys.Read(w.s, w.at)
	if f.Code != api.CoOK {
		return w.fail(f.Code, f.At)
	}
	for i, word := range k.Words {
		last := i == len(k.Words)-1
		if place := slices.Index(w.holder.keys, word); place >= 0 {
			if last || !w.holder.subs[place].open {
				return w.fail(api.CoDup, k.Spans[i].From)
			}
			w.holder = w.holder.subs[place]
			continue
		}
		if !last && w.holder.deep == api.MaxDepth {
			return w.fail(api.CoDepth, k.Spans[i].From)
		}
		w.holder.keys = append(w.holder.keys, word)
		w.holder.spots = append(w.holder.spots, k.Spans[i])
		if !last {
			made := &thing{kind: api.VkMap, span: span(-1, -1), deep: w.holder.deep + 1, open: true}
			w.hang(made)
			w.holder = made
		}
	}
	w.at = end
	if w.space(); !w.sees("=") {
		return w.fail(api.CoSyntax, w.at)
	}
	w.at++
	w.space()
	return w.value()
}

// sameAs tells if a tree's node, with all that stands in it, is a thing; each node that is met is counted.
func sameAs(tree api.Tree, node int, v *thing, met map[int]int) bool {
	if node < 0 || node >= len(tree.Nodes) {
		return false
	}
	met[node]++
	n := tree.Nodes[node]
	if n.Kind != v.kind || n.Text != v.text || n.Span != v.span || !slices.Equal(n.Keys, v.keys) || !slices.Equal(n.Spots, v.spots) || len(n.Subs) != len(v.subs) {
		return false
	}
	for i, sub := range n.Subs {
		if met[sub] > 0 || !sameAs(tree, sub, v.subs[i], met) {
			return false
		}
	}
	return true
}

// empty tells if a tree has nothing at all.
func empty(tree api.Tree) bool { return tree.Nodes == nil && tree.Root == 0 }

// look if the value at a place is read as the walk has it.
func look(t *testing.T, s string, at, around int) {
	t.Helper()
	tree, end, f := tvalues.Read(s, at, around)
	v, wantEnd, wantFault := wanted(s, at, around)
	if end != wantEnd || f != wantFault {
		t.Fatalf("%.200q at %d, around %d: %d, %v, not %d, %v", s, at, around, end, f, wantEnd, wantFault)
	}
	if wantFault.Code != api.CoOK {
		if !empty(tree) {
			t.Fatalf("%.200q at %d, around %d: %v beside %v", s, at, around, tree, f)
		}
		return
	}
	met := map[int]int{}
	if !sameAs(tree, tree.Root, v, met) || len(met) != len(tree.Nodes) {
		t.Fatalf("%.200q at %d, around %d: %v", s, at, around, tree)
	}
}

// read the value at a text's beginning, which is to have no fault.
func read(t *testing.T, s string) (tree api.Tree, end int) {
	t.Helper()
	tree, end, f := tvalues.Read(s, 0, 0)
	if f != (api.Fault{}) {
		t.Fatalf("%.200q: %v", s, f)
	}
	return tree, end
}

// refused looks if a value has just this fault, and nothing else is answered, wherever it stands.
func refused(t *testing.T, s string, around int, want api.Fault) {
	t.Helper()
	for _, ahead := range []string{"", "a = ", "[{\"'\n", "\xFF"} {
		tree, end, f := tvalues.Read(ahead+s, len(ahead), around)
		if !empty(tree) || end != 0 || f != fault(want.Code, len(ahead)+want.At) {
			t.Errorf("%.200q behind %q, around %d: %d nodes, %d, %v, not %v", s, ahead, around, len(tree.Nodes), end, f, want)
		}
	}
}

// tells a node, with all that stands in it: texts, the places of its keys, and spans.
func tells(tree api.Tree, node int) string {
	n := tree.Nodes[node]
	var parts []string
	for i, sub := range n.Subs {
		part := tells(tree, sub)
		if n.Kind == api.VkMap {
			part = n.Keys[i] + at(n.Spots[i]) + "=" + part
		}
		parts = append(parts, part)
	}
	switch n.Kind {
	case api.VkList:
		return "[" + strings.Join(parts, " ") + "]" + at(n.Span)
	case api.VkMap:
		return "{" + strings.Join(parts, " ") + "}" + at(n.Span)
	}
	return strconv.Itoa(int(n.Kind)) + ":" + n.Text + at(n.Span)
}

func at(s api.Span) string { return "<" + strconv.Itoa(s.From) + "," + strconv.Itoa(s.To) + ">" }

// says what a node says, without a word of where.
func says(tree api.Tree, node int) string {
	return regexp.MustCompile(`<-?[0-9]+,-?[0-9]+>`).ReplaceAllString(tells(tree, node), "")
}

// leaves are values without parts, as they stand, and what they tell.
var leaves = []struct {
	s    string
	kind api.Kind
	text string
}{
	{`""`, api.VkStr, ""}, {`''`, api.VkStr, ""}, {`"a"`, api.VkStr, "a"}, {`'a\'`, api.VkStr, `a\`}, {`"\u00e9\"\n"`, api.VkStr, "é\"\n"}, {`"[1, {a = 2}] # x"`, api.VkStr, "[1, {a = 2}] # x"}, {`"true"`, api.VkStr, "true"}, {"'\t é'", api.VkStr, "\t é"}, {"\"\xFF\"", api.VkStr, "\xFF"},
	{`""""""`, api.VkStr, ""}, {"''''''", api.VkStr, ""}, {"\"\"\"\r\na\r\n]\"\"\"", api.VkStr, "a\r\n]"}, {"'''\n\n'''", api.VkStr, "\n"}, {`"""a"""""`, api.VkStr, `a""`}, {"\"\"\"a\\ \n \n b\"\"\"", api.VkStr, "ab"},
	{"true", api.VkBool, "true"}, {"false", api.VkBool, "false"},
	{"0", api.VkInt, "0"}, {"-0", api.VkInt, "0"}, {"+7", api.VkInt, "7"}, {"-1_000", api.VkInt, "-1000"}, {"0xfF", api.VkInt, "255"}, {"0xe1", api.VkInt, "225"}, {"0o17", api.VkInt, "15"}, {"0b1_0", api.VkInt, "2"}, {"9223372036854775807", api.VkInt, "9223372036854775807"}, {"-9223372036854775808", api.VkInt, "-9223372036854775808"}, {"1979", api.VkInt, "1979"},
	{"0.0", api.VkFloat, "0"}, {"-0e0", api.VkFloat, "0"}, {"+1.50", api.VkFloat, "15e-1"}, {"5e+22", api.VkFloat, "5e22"}, {"-6.6_2E-34", api.VkFloat, "-662e-36"}, {"9223372036854775808.0", api.VkFloat, "9223372036854775808e0"}, {"inf", api.VkFloat, "inf"}, {"+inf", api.VkFloat, "inf"}, {"-inf", api.VkFloat, "-inf"}, {"nan", api.VkFloat, "nan"}, {"+nan", api.VkFloat, "nan"}, {"-nan", api.VkFloat, "nan"}, {"1e1000000000", api.VkFloat, "1e1000000000"},
	{"1979-05-27", api.VkDate, "1979-05-27"}, {"07:32:00", api.VkDate, "07:32:00"}, {"07:32:00.500", api.VkDate, "07:32:00.5"}, {"1979-05-27T07:32:00", api.VkDate, "1979-05-27T07:32:00"}, {"1979-05-27 07:32:00.0", api.VkDate, "1979-05-27T07:32:00"}, {"1979-05-27t07:32:00z", api.VkDate, "1979-05-27T07:32:00Z"}, {"1979-05-27 07:32:00-07:00", api.VkDate, "1979-05-27T07:32:00-07:00"}, {"0000-02-29", api.VkDate, "0000-02-29"}, {"23:59:60", api.VkDate, "23:59:60"},
}

// trees are values with parts, as they stand, and what their trees tell.
var trees = []struct{ s, want string }{
	{"[]", "[]<0,2>"},
	{"[ \t]", "[]<0,4>"},
	{"[\n]", "[]<0,3>"},
	{"[\r\n# a ]\r\n\r\n]", "[]<0,13>"},
	{"[##\n]", "[]<0,5>"},
	{"[1]", "[4:1<1,2>]<0,3>"},
	{"[1,]", "[4:1<1,2>]<0,4>"},
	{"[1 , ]", "[4:1<1,2>]<0,6>"},
	{"[\t1\t,\t'a'\t]", "[4:1<2,3> 3:a<6,9>]<0,11>"},
	{"[1,2.0,true]", "[4:1<1,2> 5:2e0<3,6> 1:true<7,11>]<0,12>"},
	{"[ # [\n 1 # 2,\n , # ]\n 3 # ,\n, # 4\n]", "[4:1<7,8> 4:3<22,23>]<0,35>"},
	{"[1979-05-27 ,07:32:00]", "[6:1979-05-27<1,11> 6:07:32:00<13,21>]<0,22>"},
	{"[1979-05-27 07:32:00]", "[6:1979-05-27T07:32:00<1,20>]<0,21>"},
	{"[1979-05-27#07:32:00\n]", "[6:1979-05-27<1,11>]<0,22>"},
	{"[[]]", "[[]<1,3>]<0,4>"},
	{"[[],[[1],],{},]", "[[]<1,3> [[4:1<6,7>]<5,8>]<4,10> {}<11,13>]<0,15>"},
	{"['''\n]''', \"\"\"a\"\"\"\"]", "[3:]<1,9> 3:a\"<11,19>]<0,20>"},
	{"{}", "{}<0,2>"},
	{"{ \t }", "{}<0,5>"},
	{"{a=1}", "{a<1,2>=4:1<3,4>}<0,5>"},
	{"{\ta\t=\t1\t}", "{a<2,3>=4:1<6,7>}<0,9>"},
	{"{b = 1, a = 'x' ,c=[]}", "{b<1,2>=4:1<5,6> a<8,9>=3:x<12,15> c<17,18>=[]<19,21>}<0,22>"},
	{`{"" = 1, '1' = 2, true = 3, - = 4}`, "{<1,3>=4:1<6,7> 1<9,12>=4:2<15,16> true<18,22>=4:3<25,26> -<28,29>=4:4<32,33>}<0,34>"},
	{"{a = [ # }\n1,\n]}", "{a<1,2>=[4:1<11,12>]<5,15>}<0,16>"},
	{"{a = '''\n}'''}", "{a<1,2>=3:}<5,13>}<0,14>"},
	{"{a = 1979-05-27 }", "{a<1,2>=6:1979-05-27<5,15>}<0,17>"},
	{"{a={a={a={}}}}", "{a<1,2>={a<4,5>={a<7,8>={}<9,11>}<6,12>}<3,13>}<0,14>"},
	{"[{a=1},{a=1}]", "[{a<2,3>=4:1<4,5>}<1,6> {a<8,9>=4:1<10,11>}<7,12>]<0,13>"},
	{"{a.b = 1}", "{a<1,2>={b<3,4>=4:1<7,8>}<-1,-1>}<0,9>"},
	{"{a.b = 1, a.c = 2}", "{a<1,2>={b<3,4>=4:1<7,8> c<12,13>=4:2<16,17>}<-1,-1>}<0,18>"},
	{"{a.b=1,c=2,a.d=3}", "{a<1,2>={b<3,4>=4:1<5,6> d<13,14>=4:3<15,16>}<-1,-1> c<7,8>=4:2<9,10>}<0,17>"},
	{"{a.b.c=1,a.d=2,a.b.e=3}", "{a<1,2>={b<3,4>={c<5,6>=4:1<7,8> e<19,20>=4:3<21,22>}<-1,-1> d<11,12>=4:2<13,14>}<-1,-1>}<0,23>"},
	{"{ 'a' . \"b\" = {a.b=1}, a.c={}}", "{a<2,5>={b<8,11>={a<15,16>={b<17,18>=4:1<19,20>}<-1,-1>}<14,21> c<25,26>={}<27,29>}<-1,-1>}<0,30>"},
	{"{a.a.a=[{a.a=1}]}", "{a<1,2>={a<3,4>={a<5,6>=[{a<9,10>={a<11,12>=4:1<13,14>}<-1,-1>}<8,15>]<7,16>}<-1,-1>}<-1,-1>}<0,17>"},
	{"{a.b={x.y=1},b={a.c=1},a.c={}}", "{a<1,2>={b<3,4>={x<6,7>={y<8,9>=4:1<10,11>}<-1,-1>}<5,12> c<25,26>={}<27,29>}<-1,-1> b<13,14>={a<16,17>={c<18,19>=4:1<20,21>}<-1,-1>}<15,22>}<0,30>"},
	{"{3.14=1, \"3\".15=2}", "{3<1,2>={14<3,5>=4:1<6,7> 15<13,15>=4:2<16,17>}<-1,-1>}<0,18>"},
}

// behind a value may stand whatever is one of these, and anything more.
var behind = []string{" ", "\t", "\n", "\r\n", ",", "]", "}", "#", " x", "\n1979-05-27", ",,", "] 07:32:00", "}}", "#\x00\xFF", "\r\n\r", " = 1", " ,", "\t07:32:00", "# 07:32:00"}

// P11.1

func TestReadOfLeaves(t *testing.T) {
	for _, c := range leaves {
		for _, ahead := range []string{"", " ", "a", "[", "\"", "'", "1", "\xFF\r"} {
			for _, b := range append([]string{""}, behind...) {
				s := ahead + c.s + b
				for _, around := range []int{0, -1, 1, api.MaxDepth, api.MaxDepth + 1, most, -most - 1} {
					tree, end, f := tvalues.Read(s, len(ahead), around)
					if f != (api.Fault{}) || end != len(ahead+c.s) || len(tree.Nodes) != 1 || tree.Root != 0 {
						t.Fatalf("%q at %d: %v, %d, %v", s, len(ahead), tree, end, f)
					}
					n := tree.Nodes[0]
					if n.Kind != c.kind || n.Text != c.text || n.Span != span(len(ahead), end) || n.Keys != nil || n.Spots != nil || n.Subs != nil {
						t.Errorf("%q at %d: %v", s, len(ahead), n)
					}
				}
				look(t, s, len(ahead), 0)
			}
		}
	}
}

func TestReadOfTrees(t *testing.T) {
	for _, c := range trees {
		tree, end := read(t, c.s)
		if got := tells(tree, tree.Root); got != c.want || end != len(c.s) {
			t.Errorf("%q: %s, %d, not %s", c.s, got, end, c.want)
		}
		for _, around := range []int{0, -1, 100, api.MaxDepth - 1, api.MaxDepth, most, -most - 1} {
			look(t, c.s, 0, around)
			look(t, "x = "+c.s+" # y", 4, around)
		}
		for from := range len(c.s) + 2 {
			look(t, c.s, from, 0)
			look(t, c.s, from, 255)
		}
	}
}

// TestReadOfNodes: of what has no part a list's and a table's nodes have nothing, and no others a list.
func TestReadOfNodes(t *testing.T) {
	for _, c := range trees {
		tree, _ := read(t, c.s)
		for _, n := range tree.Nodes {
			parts := n.Kind == api.VkList || n.Kind == api.VkMap
			if parts && n.Text != "" || !parts && len(n.Subs) > 0 || n.Kind != api.VkMap && len(n.Keys)+len(n.Spots) > 0 || n.Kind == api.VkMap && (len(n.Keys) != len(n.Subs) || len(n.Spots) != len(n.Subs)) {
				t.Errorf("%q: %v", c.s, n)
			}
		}
	}
}

func TestReadOfFaults(t *testing.T) {
	for _, c := range []struct {
		s    string
		code api.Code
		at   int
	}{
		// No value, or no whole one.
		{"", api.CoSyntax, 0}, {" 1", api.CoSyntax, 0}, {"\n1", api.CoSyntax, 0}, {"# 1", api.CoSyntax, 0}, {",", api.CoSyntax, 0}, {"]", api.CoSyntax, 0}, {"}", api.CoSyntax, 0}, {"=", api.CoSyntax, 0}, {"\x00", api.CoSyntax, 0}, {"\xFF", api.CoSyntax, 0}, {"é", api.CoSyntax, 0}, {"\uFEFF1", api.CoSyntax, 0}, {"\r", api.CoSyntax, 0}, {"\\", api.CoSyntax, 0}, {":", api.CoSyntax, 0}, {"/", api.CoSyntax, 0}, {"@", api.CoSyntax, 0}, {"`", api.CoSyntax, 0}, {"(1)", api.CoSyntax, 0},
		// Tokens that are none of these.
		{"a", api.CoSyntax, 0}, {"null", api.CoSyntax, 0}, {"True", api.CoSyntax, 0}, {"TRUE", api.CoSyntax, 0}, {"tru", api.CoSyntax, 0}, {"truee", api.CoSyntax, 0}, {"true1", api.CoSyntax, 0}, {"true.", api.CoSyntax, 0}, {"+true", api.CoSyntax, 0}, {"falsE", api.CoSyntax, 0}, {"Inf", api.CoSyntax, 0}, {"infinity", api.CoSyntax, 0}, {"NaN", api.CoSyntax, 0}, {"+-1", api.CoSyntax, 0}, {"+", api.CoSyntax, 0}, {"-", api.CoSyntax, 0}, {"_", api.CoSyntax, 0}, {".", api.CoSyntax, 0}, {"_1", api.CoSyntax, 0}, {"1_", api.CoSyntax, 0}, {"1__0", api.CoSyntax, 0}, {"01", api.CoSyntax, 0}, {"0x", api.CoSyntax, 0}, {"-0x1", api.CoSyntax, 0}, {"0X1", api.CoSyntax, 0}, {"0b2", api.CoSyntax, 0}, {"1.", api.CoSyntax, 0}, {".5", api.CoSyntax, 0}, {"1.e1", api.CoSyntax, 0}, {"1e", api.CoSyntax, 0}, {"1e1.0", api.CoSyntax, 0}, {"1.2.3", api.CoSyntax, 0}, {"1a", api.CoSyntax, 0}, {"12345678901234567890x", api.CoSyntax, 0},
		{"1979-05-2", api.CoSyntax, 0}, {"1979-5-27", api.CoSyntax, 0}, {"01979-05-27", api.CoSyntax, 0}, {"07:32", api.CoSyntax, 0}, {"07:3:00", api.CoSyntax, 0}, {"[7:32:00]", api.CoSyntax, 2}, {"-1979-05-27", api.CoSyntax, 0}, {"[1979/05/27]", api.CoSyntax, 5},
		// Strings' own.
		{`"`, api.CoSyntax, 1}, {`"a`, api.CoSyntax, 2}, {`'a"`, api.CoSyntax, 3}, {"\"a\n\"", api.CoSyntax, 2}, {`"\x"`, api.CoSyntax, 2}, {`"\ud800"`, api.CoSyntax, 3}, {`"""a""`, api.CoSyntax, 6}, {"'''\r'''", api.CoSyntax, 4}, {"['a', \"b]", api.CoSyntax, 9}, {"[\"\x01\"]", api.CoSyntax, 2},
		// Numbers' and dates' own.
		{"9223372036854775808", api.CoInt, 0}, {"-9223372036854775809", api.CoInt, 0}, {"0x8000000000000000", api.CoInt, 0}, {"[1, 99999999999999999999]", api.CoInt, 4}, {"{a = 9223372036854775808}", api.CoInt, 5},
		{"1e1000000001", api.CoExponent, 0}, {"-0.0E-1_000_000_001", api.CoExponent, 0}, {"[ 1e99999999999]", api.CoExponent, 2}, {"{a.b=1e1000000001}", api.CoExponent, 5},
		{"1900-02-29", api.CoDate, 0}, {"24:00:00", api.CoDate, 0}, {"1979-05-27T07:32:00+24:00", api.CoDate, 0}, {"1979-13-27 07:32:00", api.CoDate, 0}, {"[1979-05-27 07:60:00]", api.CoDate, 1}, {"{a = 00:00:61}", api.CoDate, 5}, {"0000-00-00x", api.CoDate, 0},
		// Lists.
		{"[", api.CoSyntax, 1}, {"[ ", api.CoSyntax, 2}, {"[\n", api.CoSyntax, 2}, {"[# a", api.CoSyntax, 4}, {"[1", api.CoSyntax, 2}, {"[1 ", api.CoSyntax, 3}, {"[1 # ]", api.CoSyntax, 6}, {"[1,", api.CoSyntax, 3}, {"[1, \n", api.CoSyntax, 5}, {"[[]", api.CoSyntax, 3}, {"[{}", api.CoSyntax, 3}, {"['a'", api.CoSyntax, 4},
		{"[,]", api.CoSyntax, 1}, {"[ ,]", api.CoSyntax, 2}, {"[1,,]", api.CoSyntax, 3}, {"[1,,2]", api.CoSyntax, 3}, {"[1,\n,2]", api.CoSyntax, 4}, {"[1 2]", api.CoSyntax, 3}, {"[1\n2]", api.CoSyntax, 3}, {"[1[]]", api.CoSyntax, 2}, {"[[]1]", api.CoSyntax, 3}, {"['a''b']", api.CoSyntax, 4}, {"[1}", api.CoSyntax, 2}, {"[}", api.CoSyntax, 1}, {"[1;2]", api.CoSyntax, 2}, {"[a = 1]", api.CoSyntax, 1}, {"[1 = 2]", api.CoSyntax, 3}, {"[1979-05-27x]", api.CoSyntax, 11}, {"[1979-05-27  07:32:00]", api.CoSyntax, 13}, {"[1979-05-27\t07:32:00]", api.CoSyntax, 12}, {"[1\x0B]", api.CoSyntax, 2}, {"[1\u00A0]", api.CoSyntax, 2},
		{"[\r]", api.CoSyntax, 2}, {"[1\r]", api.CoSyntax, 3}, {"[1,\r]", api.CoSyntax, 4}, {"[1,\r\r\n]", api.CoSyntax, 4}, {"[1,\r", api.CoSyntax, 4}, {"[# a\r]", api.CoSyntax, 5}, {"[1 # \x00\n]", api.CoSyntax, 5}, {"[1, # \x7F\n]", api.CoSyntax, 6}, {"[ # \x1F\n]", api.CoSyntax, 4},
		// Tables.
		{"{", api.CoSyntax, 1}, {"{ ", api.CoSyntax, 2}, {"{a", api.CoSyntax, 2}, {"{a ", api.CoSyntax, 3}, {"{a=", api.CoSyntax, 3}, {"{a = ", api.CoSyntax, 5}, {"{a=1", api.CoSyntax, 4}, {"{a=1 ", api.CoSyntax, 5}, {"{a=1,", api.CoSyntax, 5}, {"{a=1, ", api.CoSyntax, 6}, {"{a={}", api.CoSyntax, 5}, {"{a=[]", api.CoSyntax, 5}, {"{a.", api.CoSyntax, 3}, {`{"a`, api.CoSyntax, 3}, {`{"a"`, api.CoSyntax, 4},
		{"{,}", api.CoSyntax, 1}, {"{=}", api.CoSyntax, 1}, {"{=1}", api.CoSyntax, 1}, {"{a}", api.CoSyntax, 2}, {"{a,}", api.CoSyntax, 2}, {"{a=}", api.CoSyntax, 3}, {"{a=,}", api.CoSyntax, 3}, {"{a=1,}", api.CoSyntax, 5}, {"{a = 1, }", api.CoSyntax, 8}, {"{a=1,,b=2}", api.CoSyntax, 5}, {"{a=1 b=2}", api.CoSyntax, 5}, {"{a 1}", api.CoSyntax, 3}, {"{a:1}", api.CoSyntax, 2}, {"{a==1}", api.CoSyntax, 3}, {"{a b=1}", api.CoSyntax, 3}, {"{a=1]", api.CoSyntax, 4}, {"{]", api.CoSyntax, 1}, {"{1}", api.CoSyntax, 2}, {"{{}}", api.CoSyntax, 1}, {"{[]}", api.CoSyntax, 1}, {"{a=1=2}", api.CoSyntax, 4}, {"{a=b}", api.CoSyntax, 3}, {"{a=1.}", api.CoSyntax, 3}, {"{é=1}", api.CoSyntax, 1}, {"{a=1;b=2}", api.CoSyntax, 4},
		{"{\n}", api.CoSyntax, 1}, {"{\r\n}", api.CoSyntax, 1}, {"{a\n=1}", api.CoSyntax, 2}, {"{a=\n1}", api.CoSyntax, 3}, {"{a=1\n}", api.CoSyntax, 4}, {"{a=1,\nb=2}", api.CoSyntax, 5}, {"{a=1\n,b=2}", api.CoSyntax, 4}, {"{# a\n}", api.CoSyntax, 1}, {"{a=1 # b\n}", api.CoSyntax, 5}, {"{a=1,# b\n}", api.CoSyntax, 5}, {"{a #\n=1}", api.CoSyntax, 3}, {"{a= #\n1}", api.CoSyntax, 4}, {"{\r}", api.CoSyntax, 1}, {"{a=1\r}", api.CoSyntax, 4}, {"[{\n}]", api.CoSyntax, 2}, {"{a=[\n{\n}]}", api.CoSyntax, 6}, {"{a=1979-05-27 b}", api.CoSyntax, 14},
		// Keys' own.
		{"{a.=1}", api.CoSyntax, 3}, {"{.a=1}", api.CoSyntax, 1}, {"{a..b=1}", api.CoSyntax, 3}, {`{"\x"=1}`, api.CoSyntax, 3}, {`{"\ud800"=1}`, api.CoSyntax, 4}, {"{'a\n'=1}", api.CoSyntax, 3}, {`{"""a"""=1}`, api.CoSyntax, 3}, {"{a=1, '''b'''=1}", api.CoSyntax, 8}, {"{a+b=1}", api.CoSyntax, 2},
	} {
		refused(t, c.s, 0, fault(c.code, c.at))
		look(t, c.s, 0, 0)
		if c.at < len(c.s) {
			look(t, c.s+"]}", 0, 0)
		}
	}
}

func TestReadOfKeysTwice(t *testing.T) {
	for _, c := range []struct {
		s  string
		at int // -1: no key is there twice
	}{
		{"{a=1,a=2}", 5}, {"{a = 1, a = 2}", 8}, {"{a=1,'a'=2}", 5}, {`{"a"=1,a=2}`, 7}, {`{a=1,"\u0061"=2}`, 5}, {"{''=1,\"\"=2}", 6}, {"{a=1,b=2,a=3}", 9}, {"{é=1}", -2},
		{"{a=1,a.b=2}", 5}, {"{a='x',a.b=2}", 7}, {"{a=[],a.b=2}", 6}, {"{a={},a.b=2}", 6}, {"{a={b=1},a.c=2}", 9}, {"{a={b.c=1},a.b.d=2}", 11}, {"{a={b.c=1},a.d=2}", 11}, {"{a=[{}],a.b=2}", 8},
		{"{a.b=1,a=2}", 7}, {"{a.b=1,a={}}", 7}, {"{a.b=1,a.b=2}", 9}, {"{a.b=1,a . 'b'=2}", 11}, {"{a.b.c=1,a.b=2}", 11}, {"{a.b.c=1,a=2}", 9}, {"{a.b.c=1,a.b.c=2}", 13}, {"{a.b=1,a.b.c=2}", 9}, {"{a.b={},a.b.c=2}", 10}, {"{a.b=[],a.b.c.d=2}", 10}, {"{a.b={c=1},a.b.c=2}", 13}, {"{a.b={c.d=1},a.b.c.e=2}", 15},
		{"{b={a.c=1},a.c={},b.a.d=2}", 18}, {"[{a=1},{a=1,a=2}]", 12}, {"{a={b=1,c=1},b={b=1,b=2}}", 20}, {"{a={b={c=1},b=2}}", 12}, {"{x=1,a.b={a.b=1,a.b=2}}", 18}, {"{a.x=1,a={x=1}}", 7},
		// It is told ahead of what stands behind the key.
		{"{a=1,a", 5}, {"{a=1,a ", 5}, {"{a=1,a:2}", 5}, {"{a=1,a=", 5}, {"{a=1,a=@}", 5}, {"{a=1,a.b", 5}, {"{a=1,a='", 5}, {"{a=1,a\"", 5}, {"{a.b=1,a.b]", 9},
		// These are other keys, or keys of other tables.
		{"{a=1,A=2}", -1}, {"{a=1,aa=2,b=3}", -1}, {"{a=1,'a '=2,' a'=3}", -1}, {`{a=1,"a.b"=2,'a'.b=3}`, 13}, {`{a.b=1,"a.b"=2}`, -1}, {`{"\u00e9"=1,"e\u0301"=2}`, -1}, {`{'\u0061'=1,a=2}`, -1}, {"{1=1,01=2,1e0=3}", -1}, {"{a=1,''=2}", -1}, {"{a={a=1},b={a=1}}", -1}, {"{a={a={a=1}}}", -1}, {"{a=['a','a'],b='a'}", -1}, {"[{a=1},{a=1},{a.b=1},{a.b=1}]", -1}, {"{a.a=1,a.b=1,b.a=1,b.b=1}", -1}, {"{a.a.a=1,a.a.b=1,a.b.a=1}", -1}, {"{a.b=1,b.a=1,c={a.b=1,b.a=1}}", -1}, {"{a.b={b=1},a.c={b=1}}", -1}, {"{a.b=[{a.b=1},{a.b=2}],a.c=3}", -1},
	} {
		look(t, c.s, 0, 0)
		look(t, c.s, 0, 200)
		if c.at >= 0 {
			refused(t, c.s, 0, fault(api.CoDup, c.at))
		}
		if c.at == -1 {
			read(t, c.s)
		}
	}
}

// TestReadOfWhatIsFirst: of several faults.
func TestReadOfWhatIsFirst(t *testing.T) {
	for _, c := range []struct {
		s      string
		around int
		code   api.Code
		at     int
	}{
		{"[9223372036854775808,24:00:00,@]", 0, api.CoInt, 1}, {"[24:00:00,9223372036854775808]", 0, api.CoDate, 1}, {"[1e1000000001,\r", 0, api.CoExponent, 1}, {"[\r1e1000000001", 0, api.CoSyntax, 2}, {"[1e1000000001 1]", 0, api.CoExponent, 1}, {"[1 1e1000000001]", 0, api.CoSyntax, 3},
		{"{a=1,a=9223372036854775808}", 0, api.CoDup, 5}, {"{a=9223372036854775808,a=1}", 0, api.CoInt, 3}, {"{a=1,b,a=1}", 0, api.CoSyntax, 6}, {"{a=1,a.=1}", 0, api.CoSyntax, 7}, {`{a=1,a."`, 0, api.CoSyntax, 8}, {`{a=1,a.b."\x"=1}`, 0, api.CoSyntax, 11},
		{"[@", 256, api.CoDepth, 0}, {"[[@", 255, api.CoDepth, 1}, {"[@[", 255, api.CoSyntax, 1}, {"{@", 256, api.CoDepth, 0}, {"[", 256, api.CoDepth, 0}, {"]", 256, api.CoSyntax, 0}, {"'[", 256, api.CoSyntax, 2},
		// A key's words, one by one.
		{"{a.b.c=1}", 255, api.CoDepth, 1}, {"{a.b.c=1}", 254, api.CoDepth, 3}, {"{a=1,a.b.c=1}", 255, api.CoDup, 5}, {"{a=1,b.c=1}", 255, api.CoDepth, 5}, {"{a.b=1,a.b.c=1}", 254, api.CoDup, 9}, {"{a.b=1,a.c.d=1}", 254, api.CoDepth, 9}, {"{a.b=1,a.c.b=1}", 253, api.CoOK, 0}, {"{a.b=@", 255, api.CoDepth, 1}, {"{a.b@", 255, api.CoDepth, 1}, {"{a.=1}", 255, api.CoSyntax, 3}, {"{a.b=[]}", 254, api.CoDepth, 5}, {"{a.b={}}", 254, api.CoDepth, 5}, {"{a.b=[]}", 253, api.CoOK, 0}, {"{a.b=[],a.b=[]}", 253, api.CoDup, 10}, {"{a.b=[[]]}", 253, api.CoDepth, 6}, {"{a=[]}", 255, api.CoDepth, 3}, {"{a=[],a.b=1}", 254, api.CoDup, 6},
	} {
		look(t, c.s, 0, c.around)
		if c.code != api.CoOK {
			refused(t, c.s, c.around, fault(c.code, c.at))
		}
	}
}

func TestReadOfDepth(t *testing.T) {
	const deepest = api.MaxDepth
	for _, c := range []struct{ begin, end string }{{"[", "]"}, {"{a=", "}"}, {"[0, # [\n", ",]"}, {"{b=[], a = ", " }"}, {"[{},\n", "\n]"}} {
		for _, inner := range []string{"1", "'[['", "[]", "{}", "[1]", "{a=1}"} {
			parts := inner[0] == '[' || inner[0] == '{'
			whole := often(c.begin, deepest-1) + inner + often(c.end, deepest-1)
			look(t, whole, 0, 0)
			if _, end := read(t, whole); end != len(whole) {
				t.Errorf("%q: %d", inner, end)
			}
			deeper := c.begin + whole + c.end
			look(t, deeper, 0, 0)
			if parts {
				bad := len(often(c.begin, deepest))
				if strings.HasPrefix(c.begin, "[{}") || strings.HasPrefix(c.begin, "{b=[]") { // what stands ahead is as deep
					bad = len(often(c.begin, deepest-1)) + strings.IndexAny(c.begin[1:], "[{") + 1
				}
				refused(t, deeper, 0, fault(api.CoDepth, bad))
			}
			for _, around := range []int{1, 2, 100, 255} {
				look(t, often(c.begin, deepest-1-around)+inner+often(c.end, deepest-1-around), 0, around)
				look(t, often(c.begin, deepest-around)+inner+often(c.end, deepest-around), 0, around)
			}
		}
	}
	for _, c := range []struct{ around, most int }{{0, 256}, {-1, 256}, {-most - 1, 256}, {1, 255}, {128, 128}, {255, 1}, {256, 0}, {257, 0}, {most, 0}, {most - 1, 0}, {1 << 40, 0}} {
		s := often("[", c.most) + often("]", c.most)
		if c.most == 0 {
			s = "7"
		}
		if _, end, f := tvalues.Read(s, 0, c.around); end != len(s) || f != (api.Fault{}) {
			t.Errorf("around %d: %d, %v", c.around, end, f)
		}
		refused(t, "["+s+"]", c.around, fault(api.CoDepth, c.most))
		refused(t, often("{a=", c.most+1)+"1"+often("}", c.most+1), c.around, fault(api.CoDepth, 3*c.most))
	}
	// What has ended counts no more.
	read(t, "["+often(often("[", 255)+often("]", 255)+",", 3)+often("[", 255)+often("]", 255)+"]")
	read(t, "["+often(often("{a=", 254)+"{a=1}"+often("}", 254)+",", 3)+"]")
	refused(t, often("[", 255)+"[],{},[[", 0, fault(api.CoDepth, 262))
	refused(t, often("[", 1000000), 0, fault(api.CoDepth, 256))
	refused(t, often("{a=", 1000000), 0, fault(api.CoDepth, 768))
}

// TestReadOfDottedDepth: dots make tables that are deeper, one by one, and what stands in them.
func TestReadOfDottedDepth(t *testing.T) {
	for _, around := range []int{0, 1, 200, 250, 254, 255} {
		dots := api.MaxDepth - 1 - around
		key := often("a.", dots) + "a"
		whole := "{" + key + "=1}"
		if _, end, f := tvalues.Read(whole, 0, around); end != len(whole) || f != (api.Fault{}) {
			t.Errorf("around %d: %d, %v", around, end, f)
		}
		refused(t, "{"+key+"=[]}", around, fault(api.CoDepth, 1+len(key)+1))
		refused(t, "{"+key+"={}}", around, fault(api.CoDepth, 1+len(key)+1))
		refused(t, "{a."+key+"=1}", around, fault(api.CoDepth, 1+2*dots))
		refused(t, "{b=1 , a."+key+"=[]}", around, fault(api.CoDepth, 8-1+2*dots))
		look(t, "{"+key+"=1,b="+key+"}", 0, around)
		if dots > 1 {
			key = "b." + often("a.", dots-2) + "a"
			look(t, "{b.b=1,"+key+"=[],"+key+"b={}}", 0, around)
			look(t, "{b.b=1,"+key+".a=1,"+key+".b=2,"+key+".c=[]}", 0, around)
			look(t, "{"+key+".a=1,"+key+".a=2}", 0, around)
			look(t, "{"+key+".a=1,"+key+".a.b=2}", 0, around)
			refused(t, "{b.b=1,"+key+".a.a=1}", around, fault(api.CoDepth, 7+len(key)+1))
		}
	}
	long := often("a.", 1000000) + "a"
	refused(t, "{"+long+"=1}", 0, fault(api.CoDepth, 1+2*255))
	refused(t, "{a=1,"+long+"=1}", 0, fault(api.CoDup, 5))
}

func TestReadOfPlaces(t *testing.T) {
	for _, c := range []struct {
		s       string
		at, bad int
	}{
		{"", 0, 0}, {"", 1, 0}, {"", -1, 0}, {"1", 1, 1}, {"1", 2, 0}, {"1", -1, 0}, {"1", most, 0}, {"1", -most - 1, 0}, {"[1]", 3, 3}, {"[1]", 4, 0}, {"[1]", 2, 2}, {"[1,2]", 2, 2}, {"{a=1}", 1, 1}, {"{a=1}", 2, 2}, {"{a=1}", 4, 4}, {"true", 1, 1}, {"0x1f", 1, 1}, {`"a"`, 2, 3}, {`"a"`, 1, 1},
	} {
		tree, end, f := tvalues.Read(c.s, c.at, 0)
		if !empty(tree) || end != 0 || f != fault(api.CoSyntax, c.bad) {
			t.Errorf("%q at %d: %v, %d, %v", c.s, c.at, tree, end, f)
		}
	}
	for _, c := range []struct {
		s    string
		at   int
		want string
	}{
		{"[1,23]", 4, "4:3<4,5>"}, {"[1,23]", 3, "4:23<3,5>"}, {"x = 'y' # z", 4, "3:y<4,7>"}, {"[[1],[2]]", 5, "[4:2<6,7>]<5,8>"}, {"{a={b.c=1}}", 3, "{b<4,5>={c<6,7>=4:1<8,9>}<-1,-1>}<3,10>"}, {"1979-05-27", 2, ""}, {"1979-05-27", 8, "4:27<8,10>"}, {"1979-05-27 07:32:00", 11, "6:07:32:00<11,19>"}, {"-5.25", 3, "4:25<3,5>"}, {"0x10", 2, "4:10<2,4>"}, {"\"[1]\"", 1, "[4:1<2,3>]<1,4>"}, {"''''", 2, "3:<2,4>"},
	} {
		look(t, c.s, c.at, 0)
		if tree, _, f := tvalues.Read(c.s, c.at, 0); f.Code == api.CoOK && tells(tree, tree.Root) != c.want || (f.Code != api.CoOK) != (c.want == "") {
			t.Errorf("%q at %d: %v, %v", c.s, c.at, tree, f)
		}
	}
}

// everyText hands on all texts of up to so many of the parts.
func everyText(parts []string, most int, look func(s string)) {
	look("")
	if most == 0 {
		return
	}
	for _, part := range parts {
		everyText(parts, most-1, func(s string) { look(part + s) })
	}
}

// TestReadOfEveryText: whatever a few parts make, is it read as the walk has it?
func TestReadOfEveryText(t *testing.T) {
	parts := []string{"[", "]", "{", "}", ",", "=", ".", "a", "'a'", `"`, "1", " ", "\n", "\r", "#", "1979-05-27", "07:32:00", "1e1000000001"}
	everyText(parts, 4, func(s string) { look(t, s, 0, 0) })
	for _, ahead := range []string{"[1", "[1,", "{a.b=1", "{a.b=1,", "{a={b=1},", "[{a.b", "{a.b.c=[", "{b=1,a"} {
		everyText(parts, 3, func(s string) {
			look(t, ahead+s, 0, 0)
			look(t, ahead+s, 0, 253)
			look(t, ahead+s+"]", 0, 254)
			look(t, ahead+s+"}", 0, 0)
			look(t, ahead+s+"=1}", 0, 254)
			look(t, ahead+s+"1}]", 0, 0)
		})
	}
	everyText([]string{"[", "]", "{a=", "}", ",", "1"}, 6, func(s string) { look(t, s, 0, 253) })
}

// TestReadOfEveryKeys: tables of all pairs of a few keys.
func TestReadOfEveryKeys(t *testing.T) {
	keys := []string{"a", "b", "a.b", "'a'.a", "a.b.a", "a . b . b", "b.a"}
	values := []string{"1", "{}", "{a=1}", "{a.b=1}", "[{a.b=1}]"}
	var pairs []string
	for _, key := range keys {
		for _, value := range values {
			pairs = append(pairs, key+"="+value+",")
		}
	}
	met := 0
	everyText(pairs, 3, func(s string) {
		s = "{" + strings.TrimSuffix(s, ",") + "}"
		look(t, s, 0, 0)
		look(t, s, 0, 253)
		if _, _, f := tvalues.Read(s, 0, 0); f.Code == api.CoOK {
			met++
		}
	})
	if met < 500 {
		t.Errorf("only %d tables are read", met)
	}
}

// TestReadOfEveryByte sets each byte at each place, ahead of what stands there, and in its stead; and ends, and goes on, at each one.
func TestReadOfEveryByte(t *testing.T) {
	var some []string
	for _, c := range leaves {
		some = append(some, c.s)
	}
	for _, c := range trees {
		some = append(some, c.s)
	}
	for _, s := range some {
		for from := range len(s) + 1 {
			look(t, s[:from], 0, 0)
			look(t, s[from:], 0, 0)
			for c := range 256 {
				b := string([]byte{byte(c)})
				look(t, s[:from]+b+s[from:], 0, 0)
				if from < len(s) {
					look(t, s[:from]+b+s[from+1:], 0, 0)
				}
			}
		}
	}
}

func TestReadOfLongValues(t *testing.T) {
	const many = 100000
	list := "[0" + often(", # x\n []", many) + "]"
	tree, end := read(t, list)
	if subs := tree.Nodes[tree.Root].Subs; len(tree.Nodes) != many+2 || len(subs) != many+1 || end != len(list) || tree.Nodes[subs[many]].Span != span(len(list)-3, len(list)-1) {
		t.Errorf("%d nodes, %d in the list, %d", len(tree.Nodes), len(subs), end)
	}
	refused(t, list[:len(list)-1], 0, fault(api.CoSyntax, len(list)-1))
	for _, dotted := range []string{"", "x.", "x . y\t. z."} {
		var b strings.Builder
		b.WriteString("{")
		for i := range many {
			b.WriteString(dotted + "k" + strconv.Itoa(i) + "=" + strconv.Itoa(i) + ",")
		}
		tree, _ := read(t, b.String()+"''=1}")
		node := tree.Root
		for range strings.Count(dotted, ".") {
			node = tree.Nodes[node].Subs[0]
		}
		n := tree.Nodes[node]
		if len(n.Keys) < many || n.Keys[many-1] != "k"+strconv.Itoa(many-1) || tree.Nodes[n.Subs[77777]].Text != "77777" {
			t.Errorf("%q: %d keys", dotted, len(n.Keys))
		}
		for _, key := range []string{"k0", "'k77777'", "\"\\u006b99999\""} {
			if tree, end, f := tvalues.Read(b.String()+dotted+key+"=1}", 0, 0); !empty(tree) || end != 0 || f != fault(api.CoDup, b.Len()+len(dotted)) {
				t.Errorf("%s%s: %d nodes, %d, %v", dotted, key, len(tree.Nodes), end, f)
			}
		}
	}
	for _, c := range []struct{ begin, unit, end string }{{`"`, "a", `"`}, {"'''", "\n", "'''"}, {"[", " ", "]"}, {"[", "#\r\n", "]"}, {"[#", "#", "\n]"}, {"{", "\t", "}"}, {"0x", "0", "1"}, {"1.", "0", "1"}, {"07:32:00.", "0", "1"}} {
		s := c.begin + often(c.unit, many) + c.end
		tree, end := read(t, s)
		if len(tree.Nodes) != 1 || tree.Nodes[0].Span != span(0, len(s)) || end != len(s) {
			t.Errorf("%q, often: %d nodes, %d", c.unit, len(tree.Nodes), end)
		}
	}
	refused(t, often("x", many), 0, fault(api.CoSyntax, 0))
	refused(t, often("9", many), 0, fault(api.CoInt, 0))
}

// TestReadOfManyValues: one costs what it has itself, not what stands behind it.
func TestReadOfManyValues(t *testing.T) {
	const many = 200000
	for _, unit := range []string{"1,", "[],", "'',", "{a.b=1},", "07:32:00,", "true ", "1.5\n", "\"\"\"\"\"\"#"} {
		s := often(unit, many)
		for i := range many {
			from := i * len(unit)
			if tree, end, f := tvalues.Read(s, from, 0); len(tree.Nodes) == 0 || end != from+len(unit)-1 || f != (api.Fault{}) {
				t.Fatalf("%q, %d: %v, %d, %v", unit, i, tree, end, f)
			}
		}
	}
}

// P11.2

// lookGap looks if a comment, and a gap, ends where the grammar has its end.
func lookGap(t *testing.T, s string, from int) {
	t.Helper()
	wantComment, wantGap, wantFault := from, from, api.Fault{}
	if from >= 0 && from <= len(s) {
		wantComment += len(commentHere.FindString(s[from:]))
		wantGap += len(gapHere.FindString(s[from:]))
		if wantGap < len(s) && s[wantGap] == '\r' {
			wantGap, wantFault = 0, fault(api.CoSyntax, wantGap+1)
		}
	}
	if end, f := tvalues.Comment(s, from); end != wantComment || f != (api.Fault{}) {
		t.Fatalf("%.100q at %d: the comment ends at %d, %v, not %d", s, from, end, f, wantComment)
	}
	if end, f := tvalues.Gap(s, from); end != wantGap || f != wantFault {
		t.Fatalf("%.100q at %d: the gap ends at %d, %v, not %d, %v", s, from, end, f, wantGap, wantFault)
	}
}

func TestCommentAndGap(t *testing.T) {
	for _, c := range []struct {
		s                 string
		from              int
		comment, gap, bad int // bad: where a byte is wrong, or -1
	}{
		{"", 0, 0, 0, -1}, {"a", 0, 0, 0, -1}, {"a", 1, 1, 1, -1}, {"a#", 1, 2, 2, -1}, {"#", 0, 1, 1, -1}, {"##", 0, 2, 2, -1}, {"# a", 0, 3, 3, -1}, {"# a\n", 0, 3, 4, -1}, {"# a\r\n", 0, 3, 5, -1}, {"# a\r\nb", 0, 3, 5, -1}, {"#a#b\n#c", 0, 4, 7, -1}, {"# a", 1, 1, 2, -1}, {"# a", 2, 2, 2, -1},
		{"#\t ~\x80\xFFé😀", 0, 12, 12, -1}, {"#\x00", 0, 1, 1, -1}, {"#a\x08", 0, 2, 2, -1}, {"#\x0B", 0, 1, 1, -1}, {"#\x0C", 0, 1, 1, -1}, {"#\x1F", 0, 1, 1, -1}, {"#\x7F", 0, 1, 1, -1},
		{" ", 0, 0, 1, -1}, {"\t", 0, 0, 1, -1}, {"\n", 0, 0, 1, -1}, {"\r\n", 0, 0, 2, -1}, {"\r\n", 1, 1, 2, -1}, {" # a", 0, 0, 4, -1}, {"\n# a", 0, 0, 4, -1}, {" \t\n \r\n\t# a\n \n# b\r\n c", 0, 0, 19, -1}, {"\x0B", 0, 0, 0, -1}, {"\x0C", 0, 0, 0, -1}, {"\u00A0", 0, 0, 0, -1}, {" \u2028", 0, 0, 1, -1}, {" \uFEFF", 0, 0, 1, -1}, {" \\\n", 0, 0, 1, -1},
		{"\r", 0, 0, 0, 1}, {"\r ", 0, 0, 0, 1}, {"\r#", 0, 0, 0, 1}, {"\r\r\n", 0, 0, 0, 1}, {"\n\r", 0, 0, 0, 2}, {"a \r b", 1, 1, 0, 3}, {" \n# a\r b", 0, 0, 0, 6}, {"# a\r", 0, 3, 0, 4}, {"#\r#", 0, 1, 0, 2}, {"\r\n\r", 0, 0, 0, 3}, {"#\x00\r", 0, 1, 1, -1}, {"a\r", 0, 0, 0, -1},
		{"", 1, 1, 1, -1}, {"", -1, -1, -1, -1}, {"# a", 4, 4, 4, -1}, {"# a", -1, -1, -1, -1}, {" \r", 3, 3, 3, -1}, {" \r", -2, -2, -2, -1}, {"#", most, most, most, -1}, {"#", -most - 1, -most - 1, -most - 1, -1}, {"#", most - 1, most - 1, most - 1, -1},
	} {
		comment, f := tvalues.Comment(c.s, c.from)
		if comment != c.comment || f != (api.Fault{}) {
			t.Errorf("%q at %d: the comment ends at %d, %v", c.s, c.from, comment, f)
		}
		want := api.Fault{}
		if c.bad >= 0 {
			want = fault(api.CoSyntax, c.bad)
		}
		if gap, f := tvalues.Gap(c.s, c.from); gap != c.gap || f != want {
			t.Errorf("%q at %d: the gap ends at %d, %v", c.s, c.from, gap, f)
		}
		lookGap(t, c.s, c.from)
	}
}

func TestGapOfEveryText(t *testing.T) {
	everyText([]string{"#", " ", "\t", "\n", "\r", "a", "é", "\x00", "\x7F", "\xFF", ","}, 5, func(s string) {
		for from := -1; from <= len(s)+1; from++ {
			lookGap(t, s, from)
		}
	})
	for c := range 256 {
		for d := range 256 {
			b := string([]byte{byte(c), byte(d)})
			for _, ahead := range []string{"", " ", "\n", "\r", "#", "# a", "#\n", "#\r"} {
				lookGap(t, ahead+b, 0)
				lookGap(t, ahead+b+"\n#", 0)
			}
		}
	}
}

func TestGapOfLongTexts(t *testing.T) {
	const many = 200000
	for _, unit := range []string{" ", "\n", "\r\n", "#\n", "# a\r\n", "#", " \t\n#é\n"} {
		s := often(unit, many)
		lookGap(t, s+"a", 0)
		lookGap(t, s+"\r", 0)
	}
	s := often("#a\nb", many)
	for i := range many {
		if end, f := tvalues.Gap(s, 4*i); end != 4*i+3 || f != (api.Fault{}) {
			t.Fatalf("%d: %d, %v", i, end, f)
		}
		if end, f := tvalues.Comment(s, 4*i); end != 4*i+2 || f != (api.Fault{}) {
			t.Fatalf("%d: %d, %v", i, end, f)
		}
	}
}

// P11.3

// all values that are read whole, as they stand.
func all() []string {
	var s []string
	for _, c := range leaves {
		s = append(s, c.s)
	}
	for _, c := range trees {
		s = append(s, c.s)
	}
	return s
}

func TestWhatStandsBehind(t *testing.T) {
	for _, s := range all() {
		alone, _ := read(t, s)
		want := tells(alone, alone.Root)
		for _, b := range behind {
			tree, end := read(t, s+b)
			if got := tells(tree, tree.Root); got != want || end != len(s) {
				t.Errorf("%q, behind it %q: %s, %d, not %s", s, b, got, end, want)
			}
		}
	}
	// Behind a date alone a blank and a time go on.
	for s, want := range map[string]string{
		"1979-05-27 07:32:00":      "6:1979-05-27T07:32:00<0,19>",
		"1979-05-27 07:32:00 ":     "6:1979-05-27T07:32:00<0,19>",
		"1979-05-27  07:32:00":     "6:1979-05-27<0,10>",
		"1979-05-27\t07:32:00":     "6:1979-05-27<0,10>",
		"1979-05-27 07:32":         "6:1979-05-27<0,10>",
		"1979-05-27 1979-05-27":    "6:1979-05-27<0,10>",
		"07:32:00 07:32:00":        "6:07:32:00<0,8>",
		"1979 07:32:00":            "4:1979<0,4>",
		"1979-05-27T07:32:00 00:0": "6:1979-05-27T07:32:00<0,19>",
	} {
		tree, _ := read(t, s)
		if got := tells(tree, tree.Root); got != want {
			t.Errorf("%q: %s, not %s", s, got, want)
		}
	}
}

// TestListsOfValues: whatever gaps stand between them, a list has its values.
func TestListsOfValues(t *testing.T) {
	values := all()
	for i, gap := range []string{"", " ", "\t \t", "\n", "\r\n", "# x\n", " # ], 1\r\n\t", "\n\n# é\n#\n "} {
		for _, last := range []string{"", ",", gap + "," + gap} {
			s := "[" + gap + strings.Join(values, gap+","+gap) + gap + last + "]"
			tree, end := read(t, s)
			subs := tree.Nodes[tree.Root].Subs
			if end != len(s) || len(subs) != len(values) {
				t.Fatalf("%d, %q: %d values, %d", i, gap, len(subs), end)
			}
			for k, sub := range subs {
				alone, _ := read(t, values[k])
				n := tree.Nodes[sub]
				if says(tree, sub) != says(alone, alone.Root) || s[n.Span.From:n.Span.To] != values[k] {
					t.Errorf("%q, value %d: %s", gap, k, says(tree, sub))
				}
			}
		}
	}
}

// TestTablesOfValues: a table of pairs with one word each has its values by these.
func TestTablesOfValues(t *testing.T) {
	values := all()
	for _, blanks := range []string{"", " ", "\t", " \t\t "} {
		for _, quote := range []string{"", `"`, "'"} {
			var words, pairs []string
			for i, value := range values {
				words = append(words, "k"+strconv.Itoa(len(values)-i))
				pairs = append(pairs, blanks+quote+words[i]+quote+blanks+"="+blanks+value+blanks)
			}
			s := "{" + strings.Join(pairs, ",") + "}"
			tree, end := read(t, s)
			n := tree.Nodes[tree.Root]
			if end != len(s) || !slices.Equal(n.Keys, words) || len(n.Subs) != len(values) {
				t.Fatalf("%q, %q: %v, %d", blanks, quote, n.Keys, end)
			}
			for k, sub := range n.Subs {
				alone, _ := read(t, values[k])
				spot, place := n.Spots[k], tree.Nodes[sub].Span
				if says(tree, sub) != says(alone, alone.Root) || s[place.From:place.To] != values[k] || s[spot.From:spot.To] != quote+words[k]+quote {
					t.Errorf("%q, %q, %s: %s", blanks, quote, words[k], says(tree, sub))
				}
			}
		}
	}
}

// R4

// apart tells if a text is memory of its own, beside another one's.
func apart(s, of string) bool {
	if s == "" || of == "" {
		return true
	}
	a, b := uintptr(unsafe.Pointer(unsafe.StringData(s))), uintptr(unsafe.Pointer(unsafe.StringData(of)))
	return a >= b+uintptr(len(of)) || b >= a+uintptr(len(s))
}

func TestOwnMemory(t *testing.T) {
	for _, s := range append(all(), "["+strings.Join(all(), ",")+"]", "{a.b.c=1,a.d=[1,2,3,4,5],a.b.e='x',f=true,g=-inf,h=nan,i=07:32:00}", "{"+often("'a'.", 100)+"b=[true,false,'a',1,2.0,2024-01-01]}") {
		s = strings.Clone(s) // a constant's text may be the package's too
		tree, _ := read(t, s)
		if cap(tree.Nodes) != len(tree.Nodes) {
			t.Errorf("%q: room for %d nodes of %d", s, cap(tree.Nodes), len(tree.Nodes))
		}
		for _, n := range tree.Nodes {
			if cap(n.Keys) != len(n.Keys) || cap(n.Spots) != len(n.Spots) || cap(n.Subs) != len(n.Subs) {
				t.Errorf("%q: %v has room behind", s, n)
			}
			if !apart(n.Text, s) {
				t.Errorf("%q: %q is the text's own memory", s, n.Text)
			}
			for _, key := range n.Keys {
				if !apart(key, s) {
					t.Errorf("%q: the key %q is the text's own memory", s, key)
				}
			}
		}
	}
}

// TestOneByOne: what one answer has is changed by nothing that is done to another one, or to its other lists.
func TestOneByOne(t *testing.T) {
	const s = "{a.b=[1,2],a.c={d=1,e=2},f=[[],{}],g.h.i=1}"
	first, _ := read(t, s)
	want := tells(first, first.Root)
	second, _ := read(t, s)
	for i := range second.Nodes {
		n := &second.Nodes[i]
		for k := range n.Subs {
			n.Subs[k] = -7
		}
		for k := range n.Keys {
			n.Keys[k], n.Spots[k] = "x", span(-7, -7)
		}
		n.Keys, n.Spots, n.Subs = append(n.Keys, "y"), append(n.Spots, span(-8, -8)), append(n.Subs, -8)
		*n = api.Node{}
	}
	third, _ := read(t, s)
	if tells(first, first.Root) != want || tells(third, third.Root) != want {
		t.Errorf("%s, %s, not %s", tells(first, first.Root), tells(third, third.Root), want)
	}
	for i, n := range first.Nodes { // no list stands in another one's memory
		for k, m := range first.Nodes {
			if i != k && len(n.Subs) > 0 && len(m.Subs) > 0 && unsafe.SliceData(n.Subs) == unsafe.SliceData(m.Subs) {
				t.Errorf("nodes %d and %d share a list", i, k)
			}
		}
	}
}
