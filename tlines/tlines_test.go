package tlines_test

import (
	"reflect"
	"regexp"
	"strconv"
	"strings"
	"testing"
	"unsafe"

	"inarch/api"
	"inarch/tkeys"
	"inarch/tlines"
	"inarch/tvalues"
)

const most = int(^uint(0) >> 1)

func span(from, to int) api.Span { return api.Span{From: from, To: to} }

func fault(code api.Code, at int) api.Fault { return api.Fault{Code: code, At: at} }

func often(s string, many int) string { return strings.Repeat(s, many) }

// The forms of items, as the chapter's words say it, part by part: `_` is blanks, `k` a key, `v` a value, `#` a comment or none, `$` an end; what else there is stands for itself.
var itemForms = []struct {
	kind  tlines.Kind
	parts string
}{
	{tlines.ItBlank, "_#$"}, {tlines.ItPair, "_k_=_v_#$"}, {tlines.ItTable, "_[_k_]_#$"}, {tlines.ItTables, "_[[_k_]]_#$"},
}

var (
	blanksHere  = regexp.MustCompile(`^[\t ]*`)
	commentHere = regexp.MustCompile(`^(?:#[^\x00-\x08\x0A-\x1F\x7F]*)?`)
	endHere     = regexp.MustCompile(`^(?:\n|\r\n|\z)`)
	endBegun    = regexp.MustCompile(`^\r?`)
)

// fits tells if an item of that form stands at a place; else where it can't go on.
func fits(s string, at int, kind tlines.Kind, parts string) (it tlines.Item, f api.Fault) {
	it.Kind, it.Span.From = kind, at
	for _, part := range parts {
		rest := s[at:]
		switch part {
		case '_':
			at += len(blanksHere.FindString(rest))
		case '#':
			at += len(commentHere.FindString(rest))
		case 'k':
			it.Key, at, f = tkeys.Read(s, at)
		case 'v':
			it.Value.From = at
			it.Tree, at, f = tvalues.Read(s, at, 0)
			it.Value.To = at
		case '$':
			if !endHere.MatchString(rest) {
				return it, fault(api.CoSyntax, at+len(endBegun.FindString(rest)))
			}
			at += len(endHere.FindString(rest))
		default:
			if !strings.HasPrefix(rest, string(part)) {
				return it, fault(api.CoSyntax, at)
			}
			at++
		}
		if f.Code != api.CoOK {
			return it, f
		}
	}
	it.Span.To = at
	return it, f
}

// wanted of a place: of the forms the one that fits, or else goes on longest.
func wanted(s string, at int) (it tlines.Item, f api.Fault) {
	if at < 0 || at >= len(s) {
		return tlines.Item{}, fault(api.CoSyntax, 0)
	}
	far := -1
	for _, form := range itemForms {
		it, there := fits(s, at, form.kind, form.parts)
		if there.Code == api.CoOK {
			return it, there
		}
		if there.At > far {
			far, f = there.At, there
		}
	}
	return tlines.Item{}, f
}

func wantedAll(s string) (items []tlines.Item, f api.Fault) {
	for at := 0; at < len(s); {
		it, f := wanted(s, at)
		if f.Code != api.CoOK {
			return nil, f
		}
		items = append(items, it)
		at = it.Span.To
	}
	return items, f
}

// lookAt if the item at a place is read as the forms have it.
func lookAt(t *testing.T, s string, at int) {
	t.Helper()
	it, f := tlines.Read(s, at)
	wantIt, wantFault := wanted(s, at)
	if f != wantFault || !reflect.DeepEqual(it, wantIt) {
		t.Fatalf("%.200q at %d: %v, %v, not %v, %v", s, at, it, f, wantIt, wantFault)
	}
}

// look if a document, and its first item, is read as the forms have it.
func look(t *testing.T, s string) {
	t.Helper()
	lookAt(t, s, 0)
	items, f := tlines.All(s)
	wantItems, wantFault := wantedAll(s)
	if f != wantFault || !reflect.DeepEqual(items, wantItems) {
		t.Fatalf("%.200q: %v, %v, not %v, %v", s, items, f, wantItems, wantFault)
	}
}

// all items of a document in which nothing is wrong.
func all(t *testing.T, s string) []tlines.Item {
	t.Helper()
	items, f := tlines.All(s)
	if f != (api.Fault{}) {
		t.Fatalf("%.200q: %v", s, f)
	}
	return items
}

// tells an item: its kind, its span, its words with their spans, its value as it stands.
func tells(s string, it tlines.Item) string {
	out := "bptT"[it.Kind:it.Kind+1] + at(it.Span)
	for i, word := range it.Key.Words {
		out += " " + word + at(it.Key.Spans[i])
	}
	if it.Kind == tlines.ItPair {
		out += " = " + s[it.Value.From:it.Value.To] + at(it.Value)
	}
	return out
}

func at(s api.Span) string { return "<" + strconv.Itoa(s.From) + "," + strconv.Itoa(s.To) + ">" }

func tellsAll(s string, items []tlines.Item) string {
	var out []string
	for _, it := range items {
		out = append(out, tells(s, it))
	}
	return strings.Join(out, "; ")
}

// documents in which nothing is wrong, and what their items tell.
var documents = []struct{ s, want string }{
	{"", ""},
	// Blanks.
	{"\n", "b<0,1>"}, {"\r\n", "b<0,2>"}, {"\n\n", "b<0,1>; b<1,2>"}, {"\r\n\n\r\n", "b<0,2>; b<2,3>; b<3,5>"},
	{" ", "b<0,1>"}, {"\t \t", "b<0,3>"}, {" \n", "b<0,2>"}, {" \n ", "b<0,2>; b<2,3>"}, {" \r\n\t\n", "b<0,3>; b<3,5>"},
	{"#", "b<0,1>"}, {"# c", "b<0,3>"}, {"# c\n", "b<0,4>"}, {"# c\r\n", "b<0,5>"}, {" \t# c # d", "b<0,9>"}, {"#\t~é\x80\xFF\n#", "b<0,8>; b<8,9>"}, {"# a = 1\n# [b]\n# [[c]]", "b<0,8>; b<8,14>; b<14,21>"}, {"#\n\n#", "b<0,2>; b<2,3>; b<3,4>"},
	// Pairs.
	{"a=1", "p<0,3> a<0,1> = 1<2,3>"}, {"a=1\n", "p<0,4> a<0,1> = 1<2,3>"}, {"a=1\r\n", "p<0,5> a<0,1> = 1<2,3>"}, {"\ta\t=\t1\t", "p<0,7> a<1,2> = 1<5,6>"}, {"  a  =  1  #  b", "p<0,15> a<2,3> = 1<8,9>"}, {"a=1#", "p<0,4> a<0,1> = 1<2,3>"}, {"a=1# b = 2\nb=2", "p<0,11> a<0,1> = 1<2,3>; p<11,14> b<11,12> = 2<13,14>"},
	{"a.b . 'c d'.\"\\u00e9\" = true\n", "p<0,28> a<0,1> b<2,3> c d<6,11> é<12,20> = true<23,27>"}, {"''=''", "p<0,5> <0,2> = ''<3,5>"}, {"1.5=1.5", "p<0,7> 1<0,1> 5<2,3> = 1.5<4,7>"}, {"true = false", "p<0,12> true<0,4> = false<7,12>"}, {"- = -1", "p<0,6> -<0,1> = -1<4,6>"}, {"1979-05-27 = 1979-05-27", "p<0,23> 1979-05-27<0,10> = 1979-05-27<13,23>"}, {"\"\"=1", "p<0,4> <0,2> = 1<3,4>"},
	{"a = 'x' # '", "p<0,11> a<0,1> = 'x'<4,7>"}, {"a = '# x' # '", "p<0,13> a<0,1> = '# x'<4,9>"}, {"a = '''\n[b]\n#'''\n", "p<0,17> a<0,1> = '''\n[b]\n#'''<4,16>"}, {"a = \"\"\"\r\nb = 2\r\n\"\"\"\r\n[c]", "p<0,21> a<0,1> = \"\"\"\r\nb = 2\r\n\"\"\"<4,19>; t<21,24> c<22,23>"}, {"a = \"\"\"b\"\"\"\"\"", "p<0,13> a<0,1> = \"\"\"b\"\"\"\"\"<4,13>"},
	{"a = [1, # ]\n2,\n] # x\nb={c=[\n]}", "p<0,21> a<0,1> = [1, # ]\n2,\n]<4,16>; p<21,30> b<21,22> = {c=[\n]}<23,30>"}, {"a={}\n", "p<0,5> a<0,1> = {}<2,4>"}, {"a = [['b']]", "p<0,11> a<0,1> = [['b']]<4,11>"}, {"a = {b.c = 1, b.d = {}}\n", "p<0,24> a<0,1> = {b.c = 1, b.d = {}}<4,23>"},
	{"d=1979-05-27 \nt=07:32:00", "p<0,14> d<0,1> = 1979-05-27<2,12>; p<14,24> t<14,15> = 07:32:00<16,24>"}, {"d=1979-05-27 07:32:00 # x\n", "p<0,26> d<0,1> = 1979-05-27 07:32:00<2,21>"}, {"d=1979-05-27\n07 = 32", "p<0,13> d<0,1> = 1979-05-27<2,12>; p<13,20> 07<13,15> = 32<18,20>"}, {"d=1979-05-27 # 07:32:00", "p<0,23> d<0,1> = 1979-05-27<2,12>"},
	// Tables, and lists of them.
	{"[a]", "t<0,3> a<1,2>"}, {"[a]\n", "t<0,4> a<1,2>"}, {"[a]\r\n[a]", "t<0,5> a<1,2>; t<5,8> a<6,7>"}, {" [ a ] # b\n", "t<0,11> a<3,4>"}, {"\t[\ta\t]\t#", "t<0,8> a<3,4>"}, {"[a.b . 'c]' ]#]", "t<0,15> a<1,2> b<3,4> c]<7,11>"}, {"['']", "t<0,4> <1,3>"}, {"[\"]\"]", "t<0,5> ]<1,4>"}, {"[1]", "t<0,3> 1<1,2>"}, {"['[a]']", "t<0,7> [a]<1,6>"},
	{"[[a]]", "T<0,5> a<2,3>"}, {"[[a]]\n", "T<0,6> a<2,3>"}, {"[[a]]\r\n[[ a . b ]] # c\n", "T<0,7> a<2,3>; T<7,23> a<10,11> b<14,15>"}, {"\t[[\ta\t]]\t#\n", "T<0,11> a<4,5>"}, {"[[']]']]", "T<0,8> ]]<2,6>"}, {"[[\"\"]]#", "T<0,7> <2,4>"},
	// Some of all.
	{"a = 1 # x\n[b]", "p<0,10> a<0,1> = 1<4,5>; t<10,13> b<11,12>"}, {"[a]\nb=1\n\n# c\n[[d]]\ne.f=2\n", "t<0,4> a<1,2>; p<4,8> b<4,5> = 1<6,7>; b<8,9>; b<9,13>; T<13,19> d<15,16>; p<19,25> e<19,20> f<21,22> = 2<23,24>"}, {"a=1\r\n  ", "p<0,5> a<0,1> = 1<2,3>; b<5,7>"}, {"a=1\n#", "p<0,4> a<0,1> = 1<2,3>; b<4,5>"}, {"\r\n[a]\r\n\r\n", "b<0,2>; t<2,7> a<3,4>; b<7,9>"},
	{"[a]\n[a]\n[[a]]\na=1\na=1\na.b=1", "t<0,4> a<1,2>; t<4,8> a<5,6>; T<8,14> a<10,11>; p<14,18> a<14,15> = 1<16,17>; p<18,22> a<18,19> = 1<20,21>; p<22,27> a<22,23> b<24,25> = 1<26,27>"}, // what they lead to is none of an item's business
}

// P12.1, P12.2

func TestAllOfDocuments(t *testing.T) {
	for _, c := range documents {
		if got := tellsAll(c.s, all(t, c.s)); got != c.want {
			t.Errorf("%q: %s, not %s", c.s, got, c.want)
		}
		look(t, c.s)
		for from := -2; from <= len(c.s)+2; from++ {
			lookAt(t, c.s, from)
		}
	}
}

func TestKindsAreNumbers(t *testing.T) {
	if tlines.ItBlank != 0 || tlines.ItPair != 1 || tlines.ItTable != 2 || tlines.ItTables != 3 {
		t.Error(tlines.ItBlank, tlines.ItPair, tlines.ItTable, tlines.ItTables)
	}
}

// TestItemsHaveTheirs: what a kind of item does not have is nothing; a pair's tree is its value's, by its place.
func TestItemsHaveTheirs(t *testing.T) {
	for _, c := range documents {
		for _, it := range all(t, c.s) {
			if blank := it.Kind == tlines.ItBlank; blank != (it.Key.Words == nil) || blank != (it.Key.Spans == nil) {
				t.Errorf("%q: %v", c.s, it)
			}
			if it.Kind != tlines.ItPair {
				if it.Value != (api.Span{}) || it.Tree.Nodes != nil || it.Tree.Root != 0 {
					t.Errorf("%q: %v", c.s, it)
				}
				continue
			}
			tree, end, _ := tvalues.Read(c.s, it.Value.From, 0)
			if end != it.Value.To || !reflect.DeepEqual(it.Tree, tree) || it.Tree.Nodes[it.Tree.Root].Span != it.Value {
				t.Errorf("%q: %v, not %v", c.s, it, tree)
			}
		}
	}
}

// TestReadOfTrees tells some trees, node by node.
func TestReadOfTrees(t *testing.T) {
	const s = "# x\na . b = [ 'y', {c.d = 1} ] # z\n"
	it, f := tlines.Read(s, 4)
	if f != (api.Fault{}) || tells(s, it) != "p<4,35> a<4,5> b<8,9> = [ 'y', {c.d = 1} ]<12,30>" || len(it.Tree.Nodes) != 5 {
		t.Fatal(tells(s, it), f)
	}
	list := it.Tree.Nodes[it.Tree.Root]
	if list.Kind != api.VkList || list.Span != span(12, 30) || len(list.Subs) != 2 {
		t.Fatal(list)
	}
	text, table := it.Tree.Nodes[list.Subs[0]], it.Tree.Nodes[list.Subs[1]]
	if text.Kind != api.VkStr || text.Text != "y" || text.Span != span(14, 17) {
		t.Error(text)
	}
	if table.Kind != api.VkMap || table.Span != span(19, 28) || len(table.Keys) != 1 || table.Keys[0] != "c" || table.Spots[0] != span(20, 21) {
		t.Fatal(table)
	}
	dotted := it.Tree.Nodes[table.Subs[0]]
	if dotted.Kind != api.VkMap || dotted.Span != span(-1, -1) || dotted.Keys[0] != "d" || dotted.Spots[0] != span(22, 23) {
		t.Fatal(dotted)
	}
	if one := it.Tree.Nodes[dotted.Subs[0]]; one.Kind != api.VkInt || one.Text != "1" || one.Span != span(26, 27) {
		t.Error(one)
	}
}

// faults of documents: what is wrong first.
var faults = []struct {
	s    string
	code api.Code
	at   int
}{
	// Blanks.
	{"\r", api.CoSyntax, 1}, {"\ra", api.CoSyntax, 1}, {"\r\r\n", api.CoSyntax, 1}, {" \r", api.CoSyntax, 2}, {" \t\r a", api.CoSyntax, 3}, {"\n\r", api.CoSyntax, 2}, {"\r\n\r", api.CoSyntax, 3}, {"\r\n\r\r\n", api.CoSyntax, 3}, {"# a\rb", api.CoSyntax, 4}, {"# a\r", api.CoSyntax, 4}, {"#\r#\n", api.CoSyntax, 2},
	{"#\x00", api.CoSyntax, 1}, {"# \x01", api.CoSyntax, 2}, {"# a\x08b\n", api.CoSyntax, 3}, {"# \x0B\n", api.CoSyntax, 2}, {"# \x0C\n", api.CoSyntax, 2}, {"# \x1F\n", api.CoSyntax, 2}, {"# a\x7F\n", api.CoSyntax, 3}, {"\n# b\n # a\x7F\n", api.CoSyntax, 9},
	{"\x00", api.CoSyntax, 0}, {" \x00", api.CoSyntax, 1}, {"\x0B\n", api.CoSyntax, 0}, {" \x0C", api.CoSyntax, 1}, {"\u00A0\n", api.CoSyntax, 0}, {"\uFEFFa = 1", api.CoSyntax, 0}, {"\\\n", api.CoSyntax, 0}, {"// a", api.CoSyntax, 0}, {"; a", api.CoSyntax, 0},
	// Pairs without a key, `=`, or a value.
	{"=", api.CoSyntax, 0}, {"= 1", api.CoSyntax, 0}, {" = 1", api.CoSyntax, 1}, {".a = 1", api.CoSyntax, 0}, {"é = 1", api.CoSyntax, 0}, {"+a = 1", api.CoSyntax, 0}, {"{a = 1}", api.CoSyntax, 0}, {"]", api.CoSyntax, 0}, {"}", api.CoSyntax, 0}, {",", api.CoSyntax, 0},
	{"a", api.CoSyntax, 1}, {"a ", api.CoSyntax, 2}, {"a\n", api.CoSyntax, 1}, {"a\n= 1", api.CoSyntax, 1}, {"a \r\n= 1", api.CoSyntax, 2}, {"a\r= 1", api.CoSyntax, 1}, {"a # = 1", api.CoSyntax, 2}, {"a#", api.CoSyntax, 1}, {"a 1", api.CoSyntax, 2}, {"a: 1", api.CoSyntax, 1}, {"a b = 1", api.CoSyntax, 2}, {"a, = 1", api.CoSyntax, 1}, {"a+b = 1", api.CoSyntax, 1}, {"a] = 1", api.CoSyntax, 1}, {"'a''b' = 1", api.CoSyntax, 3}, {"é", api.CoSyntax, 0}, {"aé = 1", api.CoSyntax, 1},
	{"a. = 1", api.CoSyntax, 3}, {"a.", api.CoSyntax, 2}, {"a..b = 1", api.CoSyntax, 2}, {"a.\nb = 1", api.CoSyntax, 2}, {"'a", api.CoSyntax, 2}, {"'a\n' = 1", api.CoSyntax, 2}, {`"\x" = 1`, api.CoSyntax, 2}, {`"\ud800" = 1`, api.CoSyntax, 3}, {`"""a""" = 1`, api.CoSyntax, 2}, {"'''a''' = 1", api.CoSyntax, 2},
	{"a=", api.CoSyntax, 2}, {"a = ", api.CoSyntax, 4}, {"a=\n", api.CoSyntax, 2}, {"a = \n1", api.CoSyntax, 4}, {"\na = \n1", api.CoSyntax, 5}, {"a = \r\n1", api.CoSyntax, 4}, {"a = # 1", api.CoSyntax, 4}, {"a == 1", api.CoSyntax, 3}, {"a = = 1", api.CoSyntax, 4}, {"a = b", api.CoSyntax, 4}, {"a = 07", api.CoSyntax, 4}, {"a = ,", api.CoSyntax, 4}, {"a = ]", api.CoSyntax, 4}, {"a = é", api.CoSyntax, 4}, {"a=\r", api.CoSyntax, 2},
	// Values' own.
	{"a = 'x", api.CoSyntax, 6}, {"a = \"x\n\"", api.CoSyntax, 6}, {"a = '''\n", api.CoSyntax, 8}, {"a = [1 2]", api.CoSyntax, 7}, {"a = [", api.CoSyntax, 5}, {"a = [\n1\n", api.CoSyntax, 8}, {"a = {\n}", api.CoSyntax, 5}, {"a = [\r]", api.CoSyntax, 6}, {"a = 1.", api.CoSyntax, 4},
	{"a = 99999999999999999999", api.CoInt, 4}, {"a = -9223372036854775809\n", api.CoInt, 4}, {"a = [1,\n9223372036854775808]", api.CoInt, 8}, {"a = 1e1000000001", api.CoExponent, 4}, {"a = 2024-02-30", api.CoDate, 4}, {"a = 24:00:00 b", api.CoDate, 4}, {"x = 1\na = {b=1,b=2}", api.CoDup, 15}, {"a = {b=1,b.c=2}", api.CoDup, 9},
	// What stands behind a pair.
	{"a = 1 b = 2", api.CoSyntax, 6}, {"a = 1 b", api.CoSyntax, 6}, {"a = 1,", api.CoSyntax, 5}, {"a = 1]", api.CoSyntax, 5}, {"a = 1}", api.CoSyntax, 5}, {"a = 1;", api.CoSyntax, 5}, {"a = 1 [b]", api.CoSyntax, 6}, {"a = 'b'c", api.CoSyntax, 7}, {"a = 'b' 'c'", api.CoSyntax, 8}, {"a = []]", api.CoSyntax, 6}, {"a = {}b = 1", api.CoSyntax, 6}, {"a = 1é", api.CoSyntax, 5}, {"a = 1 = 2", api.CoSyntax, 6}, {"a = 1\x00", api.CoSyntax, 5}, {"a = 1\x0B", api.CoSyntax, 5}, {"a = 1 \\\n", api.CoSyntax, 6}, {"a = 1\\", api.CoSyntax, 5}, {"d = 1979-05-27x", api.CoSyntax, 14}, {"d = 1979-05-27 x", api.CoSyntax, 15}, {"d = 1979-05-27  07:32:00", api.CoSyntax, 16}, {"a = ''''", api.CoSyntax, 8}, {"a = true false", api.CoSyntax, 9},
	{"a = 1\r", api.CoSyntax, 6}, {"a = 1\rb = 2", api.CoSyntax, 6}, {"a = 1 \r \n", api.CoSyntax, 7}, {"a = 1 # x\ry\n", api.CoSyntax, 10}, {"a = 1 # x\x00\n", api.CoSyntax, 9}, {"a = 1 #\x7F", api.CoSyntax, 7}, {"a = 1\r\r\n", api.CoSyntax, 6}, {"a = 1\r\nb = 2\r", api.CoSyntax, 13},
	// Tables.
	{"[", api.CoSyntax, 1}, {"[ ", api.CoSyntax, 2}, {"[]", api.CoSyntax, 1}, {"[ ]", api.CoSyntax, 2}, {"[\n", api.CoSyntax, 1}, {"[\na]", api.CoSyntax, 1}, {"[#]", api.CoSyntax, 1}, {"[.a]", api.CoSyntax, 1}, {"[a.]", api.CoSyntax, 3}, {"[a..b]", api.CoSyntax, 3}, {"['a]", api.CoSyntax, 4}, {"[\"\\x\"]", api.CoSyntax, 3}, {"[é]", api.CoSyntax, 1}, {"[{}]", api.CoSyntax, 1},
	{"[a", api.CoSyntax, 2}, {"[a ", api.CoSyntax, 3}, {"[a\n]", api.CoSyntax, 2}, {"[a\r\n]", api.CoSyntax, 2}, {"[a\r]", api.CoSyntax, 2}, {"[a # ]", api.CoSyntax, 3}, {"[a = 1]", api.CoSyntax, 3}, {"[a b]", api.CoSyntax, 3}, {"[a, b]", api.CoSyntax, 2}, {"[a}", api.CoSyntax, 2}, {"[a[b]]", api.CoSyntax, 2},
	{"[a]x", api.CoSyntax, 3}, {"[a]]", api.CoSyntax, 3}, {"[a] ]", api.CoSyntax, 4}, {"[a] b = 1", api.CoSyntax, 4}, {"[a] = 1", api.CoSyntax, 4}, {"[a].b", api.CoSyntax, 3}, {"[a][b]", api.CoSyntax, 3}, {"[a]\r", api.CoSyntax, 4}, {"[a]\x00", api.CoSyntax, 3}, {"[a] # \x00", api.CoSyntax, 6}, {"[a] #\r", api.CoSyntax, 6},
	// Lists of tables.
	{"[[", api.CoSyntax, 2}, {"[[ ", api.CoSyntax, 3}, {"[[]]", api.CoSyntax, 2}, {"[[ ]]", api.CoSyntax, 3}, {"[[[a]]]", api.CoSyntax, 2}, {"[ [a]]", api.CoSyntax, 2}, {"[\t[a]\t]", api.CoSyntax, 2}, {"[\n[a]]", api.CoSyntax, 1}, {"[[\na]]", api.CoSyntax, 2}, {"[[a.]]", api.CoSyntax, 4}, {"[[\"a]]", api.CoSyntax, 6},
	{"[[a", api.CoSyntax, 3}, {"[[a ", api.CoSyntax, 4}, {"[[a]", api.CoSyntax, 4}, {"[[a] ]", api.CoSyntax, 4}, {"[[a]\t]", api.CoSyntax, 4}, {"[[a]\n]", api.CoSyntax, 4}, {"[[a]\n", api.CoSyntax, 4}, {"[[a]\r\n", api.CoSyntax, 4}, {"[[a\n]]", api.CoSyntax, 3}, {"[[a] # b", api.CoSyntax, 4}, {"[[a]x", api.CoSyntax, 4}, {"[[a]=", api.CoSyntax, 4}, {"[[a, b]]", api.CoSyntax, 3}, {"[[a], [b]]", api.CoSyntax, 4}, {"[[a = 1]]", api.CoSyntax, 4}, {"[[a b]]", api.CoSyntax, 4},
	{"[[a]]]", api.CoSyntax, 5}, {"[[a]] ]", api.CoSyntax, 6}, {"[[a]]x", api.CoSyntax, 5}, {"[[a]] x = 1", api.CoSyntax, 6}, {"[[a]][b]", api.CoSyntax, 5}, {"[[a]]\r", api.CoSyntax, 6}, {"[[a]]\x7F", api.CoSyntax, 5}, {"[[a]] # \x1F", api.CoSyntax, 8},
	// The first one of several.
	{"a = 1\nb\nc = \n", api.CoSyntax, 7}, {"a = 1,\nb = 9223372036854775808", api.CoSyntax, 5}, {"a = 9223372036854775808,\nb", api.CoInt, 4}, {"[a\n[b", api.CoSyntax, 2}, {"a = 24:00:00 # \x00", api.CoDate, 4}, {"a = 1 # \x00\n=", api.CoSyntax, 8}, {"[a]\n[b]\nc = 1\n\n[[d]\n", api.CoSyntax, 19}, {"a = {b=1,b=2}x", api.CoDup, 9}, {"'\x00' 'a", api.CoSyntax, 1},
}

func TestAllOfFaults(t *testing.T) {
	for _, c := range faults {
		items, f := tlines.All(c.s)
		if items != nil || f != fault(c.code, c.at) {
			t.Errorf("%q: %v, %v, not %v", c.s, items, f, fault(c.code, c.at))
		}
		look(t, c.s)
		ahead := "x = 1 # y\r\n\n[z]\n"
		if items, f := tlines.All(ahead + c.s); items != nil || f != fault(c.code, len(ahead)+c.at) {
			t.Errorf("%q, behind others: %v, %v", c.s, items, f)
		}
		for from := -1; from <= len(c.s)+1; from++ {
			lookAt(t, c.s, from)
		}
	}
}

// TestReadOfFaults: an item that is wrong is nothing; what is wrong behind it makes no difference.
func TestReadOfFaults(t *testing.T) {
	for _, c := range faults {
		first := 0
		for {
			it, f := tlines.Read(c.s, first)
			if f.Code == api.CoOK {
				first = it.Span.To
				continue
			}
			if !reflect.DeepEqual(it, tlines.Item{}) || f != fault(c.code, c.at) {
				t.Errorf("%q at %d: %v, %v", c.s, first, it, f)
			}
			break
		}
		for _, s := range []string{"a=1\n", "[a]\n", "[[a]]\r\n", "# a\n"} {
			if it, f := tlines.Read(s+c.s, 0); it.Span != span(0, len(s)) || f != (api.Fault{}) {
				t.Errorf("%q: %v, %v", s+c.s, it, f)
			}
		}
	}
}

func TestReadOfPlaces(t *testing.T) {
	for _, c := range []struct {
		s  string
		at int
	}{
		{"", 0}, {"", 1}, {"", -1}, {"a = 1", 5}, {"a = 1", 6}, {"a = 1", -1}, {"a = 1\n", 6}, {"\n", 1}, {"\r\n", 2}, {"a", most}, {"a", -most - 1}, {"=", 1}, {"=", 2}, {"\r", 1}, {"[a]\n", 4}, {"[a]\n", 99}, {"[a]\n", -4},
	} {
		if it, f := tlines.Read(c.s, c.at); !reflect.DeepEqual(it, tlines.Item{}) || f != fault(api.CoSyntax, 0) {
			t.Errorf("%q at %d: %v, %v", c.s, c.at, it, f)
		}
	}
	for _, c := range []struct {
		s    string
		at   int
		want string
	}{
		{"a = 1\n b = 2 # x\n", 6, "p<6,17> b<7,8> = 2<11,12>"}, {"a = 1\n b = 2 # x\n", 7, "p<7,17> b<7,8> = 2<11,12>"}, {"a = 1\n b = 2 # x\n", 12, "b<12,17>"}, {"a = 1\n b = 2 # x\n", 13, "b<13,17>"}, {"a = 1\n b = 2 # x\n", 16, "b<16,17>"}, {"a = 1\n b = 2 # x\n", 5, "b<5,6>"}, {"[[a]]\r\n", 6, "b<6,7>"}, {"[[a]]\r\n", 5, "b<5,7>"}, {"# a = 1\n", 2, "p<2,8> a<2,3> = 1<6,7>"}, {"a.b = 1", 2, "p<2,7> b<2,3> = 1<6,7>"}, {"# [[a]] # b", 2, "T<2,11> a<4,5>"}, {"a = '''\n[b]\n'''", 8, "t<8,12> b<9,10>"},
	} {
		if it, f := tlines.Read(c.s, c.at); f != (api.Fault{}) || tells(c.s, it) != c.want {
			t.Errorf("%q at %d: %s, %v, not %s", c.s, c.at, tells(c.s, it), f, c.want)
		}
	}
}

// TestDepthBeginsAnew: a value is read as if nothing were around it, whatever leads to it.
func TestDepthBeginsAnew(t *testing.T) {
	deepest := often("[", api.MaxDepth) + often("]", api.MaxDepth)
	for _, ahead := range []string{"", often("[a]\n", 300), often("[[a.b.c]]\n", 300), "[" + often("a.", 300) + "a]\n"} {
		for _, key := range []string{"a = ", "a.b = ", often("a.", 300) + "a = "} {
			s := ahead + key + deepest
			items := all(t, s)
			if it := items[len(items)-1]; it.Value != span(len(ahead+key), len(s)) || len(it.Tree.Nodes) != api.MaxDepth {
				t.Errorf("%.20q, %.20q: %v, %d nodes", ahead, key, it.Value, len(it.Tree.Nodes))
			}
			if items, f := tlines.All(ahead + key + "[" + deepest + "]"); items != nil || f != fault(api.CoDepth, len(ahead+key)+api.MaxDepth) {
				t.Errorf("%.20q, %.20q: %d items, %v", ahead, key, len(items), f)
			}
			if items, f := tlines.All(ahead + key + "{a=" + deepest + "}"); items != nil || f != fault(api.CoDepth, len(ahead+key)+api.MaxDepth+2) {
				t.Errorf("%.20q, %.20q: %d items, %v", ahead, key, len(items), f)
			}
		}
	}
}

// everyText hands on all texts of up to so many of the parts.
func everyText(parts []string, most int, look func(s string)) {
	look("")
	if most == 0 {
		return
	}
	for _, part := range parts {
		everyText(parts, most-1, func(s string) { look(part + s) })
	}
}

// TestAllOfEveryText: whatever a few parts make, is it read as the forms have it?
func TestAllOfEveryText(t *testing.T) {
	parts := []string{"a", "=", "1", "[", "]", ".", " ", "\n", "\r", "#", `"`, "'", ",", "\x00", "é"}
	everyText(parts, 4, func(s string) { look(t, s) })
	everyText([]string{"[", "]", "a", " ", "\n", "\r"}, 6, func(s string) { look(t, s) })
	everyText([]string{"a", "=", "1", " ", "\r", "\n", "#"}, 6, func(s string) { look(t, s) })
	for _, ahead := range []string{"a=1", "a = [1", "a={b=1", "[a", "[[a", "[[a]", "[a]", "a=1979-05-27", "a='''", "# a"} {
		everyText(parts, 3, func(s string) { look(t, ahead+s) })
	}
}

// TestAllOfSpoiltDocuments sets each byte at each place, ahead of what stands there, and in its stead; and ends, and goes on, at each one.
func TestAllOfSpoiltDocuments(t *testing.T) {
	for _, c := range documents {
		if len(c.s) > 40 {
			continue
		}
		for from := range len(c.s) + 1 {
			look(t, c.s[:from])
			look(t, c.s[from:])
			for n := range 256 {
				b := string([]byte{byte(n)})
				look(t, c.s[:from]+b+c.s[from:])
				if from < len(c.s) {
					look(t, c.s[:from]+b+c.s[from+1:])
				}
			}
		}
	}
}

func TestAllOfLongDocuments(t *testing.T) {
	const many = 100000
	for _, unit := range []string{"\n", "\r\n", "#\n", " \t# é\r\n", "a=1\n", "a . b = [ # c\n] # d\r\n", "[a]\n", "[[a.b]]\r\n", "a=''''''\n"} {
		s := often(unit, many)
		items := all(t, s)
		if len(items) != many {
			t.Fatalf("%q: %d items", unit, len(items))
		}
		want := tells(unit, all(t, unit)[0])
		for i, it := range items {
			if from := i * len(unit); it.Span != span(from, from+len(unit)) || tells(unit, moved(it, -from)) != want {
				t.Fatalf("%q, %d: %s", unit, i, tells(s, it))
			}
		}
		if items, f := tlines.All(s + "\r"); items != nil || f != fault(api.CoSyntax, len(s)+1) {
			t.Errorf("%q: %d items, %v", unit, len(items), f)
		}
		for i := range many { // one costs what it has itself, not what stands behind it
			if it, f := tlines.Read(s, i*len(unit)); it.Span.To != (i+1)*len(unit) || f != (api.Fault{}) {
				t.Fatalf("%q, %d: %v, %v", unit, i, it.Span, f)
			}
		}
	}
	for _, c := range []struct{ begin, unit, end string }{{"", " ", ""}, {"#", "#", ""}, {"", "a", "=1"}, {"", "a.", "a=1"}, {"a", " ", "=1"}, {"a=", "\t", "1"}, {"a=1", " ", "#"}, {"a='", "x", "'"}, {"a='''", "\n", "'''"}, {"a=[", "1,", "]"}, {"a=[", "\n", "]"}, {"[", "a", "]"}, {"[[", "a.", "a]]"}, {"[", " ", "a]"}, {"[[a", " ", "]]"}, {"[a]", " ", ""}} {
		s := c.begin + often(c.unit, many) + c.end
		if items := all(t, s+"\n"); len(items) != 1 || items[0].Span != span(0, len(s)+1) {
			t.Errorf("%q, often: %d items", c.unit, len(items))
		}
	}
}

// P12.3

// moved an item by so many bytes: as it is, behind so many more of them.
func moved(it tlines.Item, by int) tlines.Item {
	move := func(s api.Span) api.Span {
		if s == span(-1, -1) {
			return s
		}
		return span(s.From+by, s.To+by)
	}
	spans := func(l []api.Span) (out []api.Span) {
		for _, s := range l {
			out = append(out, move(s))
		}
		return out
	}
	it.Span = move(it.Span)
	it.Key.Spans = spans(it.Key.Spans)
	if it.Kind == tlines.ItPair {
		it.Value = move(it.Value)
	}
	nodes := it.Tree.Nodes
	it.Tree.Nodes = nil
	for _, n := range nodes {
		n.Span, n.Spots = move(n.Span), spans(n.Spots)
		it.Tree.Nodes = append(it.Tree.Nodes, n)
	}
	return it
}

// TestSpansAreTheDocument: one behind the other; each one, read at its place, or as a document of its own, is the same.
func TestSpansAreTheDocument(t *testing.T) {
	for _, c := range documents {
		end := 0
		for _, it := range all(t, c.s) {
			if it.Span.From != end || it.Span.To <= end {
				t.Errorf("%q: %v behind %d", c.s, it.Span, end)
			}
			end = it.Span.To
			if there, f := tlines.Read(c.s, it.Span.From); f != (api.Fault{}) || !reflect.DeepEqual(there, it) {
				t.Errorf("%q: %v, %v, not %v", c.s, there, f, it)
			}
			alone := c.s[it.Span.From:it.Span.To]
			items := all(t, alone)
			if len(items) != 1 || !reflect.DeepEqual(moved(items[0], it.Span.From), it) {
				t.Errorf("%q, alone: %v, not %v", alone, items, it)
			}
			if lineEnd := strings.HasSuffix(alone, "\n"); !lineEnd && end != len(c.s) {
				t.Errorf("%q ends ahead of its line's end", alone)
			}
		}
		if end != len(c.s) {
			t.Errorf("%q: its items end at %d", c.s, end)
		}
	}
}

// TestDocumentsOneBehindTheOther have both documents' items.
func TestDocumentsOneBehindTheOther(t *testing.T) {
	for _, a := range documents {
		if a.s != "" && !strings.HasSuffix(a.s, "\n") {
			continue
		}
		for _, b := range documents {
			want := all(t, a.s)
			for _, it := range all(t, b.s) {
				want = append(want, moved(it, len(a.s)))
			}
			if got := all(t, a.s+b.s); !reflect.DeepEqual(got, want) {
				t.Errorf("%q, %q: %v, not %v", a.s, b.s, got, want)
			}
		}
	}
}

// R4

// apart tells if a text is memory of its own, beside another one's.
func apart(s, of string) bool {
	if s == "" || of == "" {
		return true
	}
	a, b := uintptr(unsafe.Pointer(unsafe.StringData(s))), uintptr(unsafe.Pointer(unsafe.StringData(of)))
	return a >= b+uintptr(len(of)) || b >= a+uintptr(len(s))
}

// tight tells if no list of an item has room behind, and no text of it stands in another one.
func tight(it tlines.Item, s string) bool {
	ok := cap(it.Key.Words) == len(it.Key.Words) && cap(it.Key.Spans) == len(it.Key.Spans) && cap(it.Tree.Nodes) == len(it.Tree.Nodes)
	for _, word := range it.Key.Words {
		ok = ok && apart(word, s)
	}
	for _, n := range it.Tree.Nodes {
		ok = ok && apart(n.Text, s) && cap(n.Keys) == len(n.Keys) && cap(n.Spots) == len(n.Spots) && cap(n.Subs) == len(n.Subs)
		for _, key := range n.Keys {
			ok = ok && apart(key, s)
		}
	}
	return ok
}

func TestOwnMemory(t *testing.T) {
	for _, c := range documents {
		s := strings.Clone(c.s) // a constant's text may be the package's too
		items := all(t, s)
		if cap(items) != len(items) || (items == nil) != (s == "") {
			t.Errorf("%q: room for %d items of %d", s, cap(items), len(items))
		}
		for _, it := range items {
			if !tight(it, s) {
				t.Errorf("%q: %v", s, it)
			}
			if alone, _ := tlines.Read(s, it.Span.From); !tight(alone, s) {
				t.Errorf("%q: %v", s, alone)
			}
		}
	}
	for n := range 100 {
		if items := all(t, often("a.b=[1]\n", n)); len(items) != n || cap(items) != n {
			t.Errorf("%d items: %d, with room for %d", n, len(items), cap(items))
		}
	}
}

// TestOneByOne: what is done to one answer, or to one of its items, changes no other one.
func TestOneByOne(t *testing.T) {
	const s = "a.b = [1, {c = 2}]\na.b = [1, {c = 2}]\n[a.b]\n[[a.b]]\n"
	first, second := all(t, s), all(t, s)
	for k := range second {
		it := &second[k]
		for i := range it.Key.Words {
			it.Key.Words[i], it.Key.Spans[i] = "x", span(-7, -7)
		}
		it.Key.Words, it.Key.Spans = append(it.Key.Words, "y"), append(it.Key.Spans, span(-8, -8))
		for i := range it.Tree.Nodes {
			n := &it.Tree.Nodes[i]
			for j := range n.Subs {
				n.Subs[j] = -7
			}
			for j := range n.Keys {
				n.Keys[j], n.Spots[j] = "z", span(-9, -9)
			}
			*n = api.Node{}
		}
		for i := k + 1; i < len(second); i++ {
			if !reflect.DeepEqual(second[i], first[i]) {
				t.Errorf("items %d and %d share memory", k, i)
			}
		}
	}
	if want, _ := wantedAll(s); !reflect.DeepEqual(first, want) || !reflect.DeepEqual(all(t, s), want) {
		t.Errorf("%v, %v, not %v", first, all(t, s), want)
	}
}
