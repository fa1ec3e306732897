package paths_test

import (
	"fmt"
	"math"
	"math/rand"
	"slices"
	"strconv"
	"strings"
	"testing"
	"unsafe"

	"inarch/api"
	"inarch/paths"
	"inarch/values"
)

func key(s string) api.Step { return api.Step{Kind: api.StKey, Text: s} }

func at(n int) api.Step { return api.Step{Kind: api.StAt, At: n} }

func id(field, s string) api.Step { return api.Step{Kind: api.StID, Text: field, ID: s} }

func path(l ...api.Step) []api.Step { return l }

var null = api.Value{}

func of(kind api.Kind, text string) api.Value { return api.Value{Kind: kind, Text: text} }

func num(text string) api.Value { return of(api.VkNum, text) }

func str(text string) api.Value { return of(api.VkStr, text) }

func list(l ...api.Value) api.Value { return api.Value{Kind: api.VkList, List: l} }

// table is a map, of keys and what they have in turn.
func table(entries ...any) api.Value {
	v := api.Value{Kind: api.VkMap}
	for i := 0; i < len(entries); i += 2 {
		v.Keys, v.List = append(v.Keys, entries[i].(string)), append(v.List, entries[i+1].(api.Value))
	}
	return v
}

// brief is what a failure tells: of a great thing no more than how it begins.
func brief(x any) string {
	s := fmt.Sprintf("%+q", fmt.Sprint(x))
	return s[:min(300, len(s))]
}

// often is a step so many times.
func often(s api.Step, many int) []api.Step { return slices.Repeat(path(s), many) }

// steps of all kinds, of every number of a few texts and places.
func steps(kinds []api.StepKind, texts, ids []string, places []int) (l []api.Step) {
	for _, kind := range kinds {
		for _, text := range texts {
			for _, name := range ids {
				for _, place := range places {
					l = append(l, api.Step{Kind: kind, Text: text, ID: name, At: place})
				}
			}
		}
	}
	return l
}

// anySteps are such as may be, and such as may not.
func anySteps() []api.Step {
	return steps([]api.StepKind{0, 1, 2, 3, 4, 128, 255}, []string{"", "a", "\x00", "0"}, []string{"", "x", "\x00"}, []int{math.MinInt, -1, 0, 1, 2, math.MaxInt})
}

// goodSteps are such as may be.
func goodSteps() []api.Step {
	texts := []string{"", ".", "a", "b", "ab", "0", "12", "/", "a/b", "%", "%2f", "2f", "[", "]", "=", "[0]", "a=b", "\n", "\r", "\x00", "\x7f", "é", "\xff", "\u2028", "\"x\"", "~", " "}
	l := path(at(0), at(1), at(9), at(10), at(12), at(math.MaxInt32), at(math.MaxInt))
	for _, text := range texts {
		l = append(l, key(text))
		for _, name := range texts {
			l = append(l, id(text, name))
		}
	}
	return l
}

// P16.1

func TestMay(t *testing.T) {
	for _, p := range [][]api.Step{nil, path(), path(key("")), path(at(0)), path(at(math.MaxInt)), path(id("", "")), path(id("a", "x")), path(key("a"), at(3), id("x", `"y"`)), often(key("a"), api.MaxSteps), often(at(1), api.MaxSteps), often(id("a", "b"), api.MaxSteps)} {
		if !paths.May(p) {
			t.Errorf("%s may not be", brief(p))
		}
	}
	for _, p := range [][]api.Step{
		path(api.Step{Kind: 3}), path(api.Step{Kind: 255}), path(at(-1)), path(at(math.MinInt)), path(api.Step{Kind: api.StAt, Text: "a"}), path(api.Step{Kind: api.StAt, ID: "a"}), path(api.Step{Kind: api.StAt, Text: "0", ID: "0"}),
		path(api.Step{Text: "a", At: 1}), path(api.Step{Text: "a", At: -1}), path(api.Step{Text: "a", ID: "b"}), path(api.Step{ID: "b"}), path(api.Step{Kind: api.StID, Text: "a", ID: "b", At: 1}), path(api.Step{Kind: api.StID, At: -1}),
		path(key("a"), at(-1)), path(at(-1), key("a")), append(often(key("a"), api.MaxSteps-1), at(-1)), often(key("a"), api.MaxSteps+1), make([]api.Step, api.MaxSteps+1), make([]api.Step, 4*api.MaxSteps),
	} {
		if paths.May(p) {
			t.Errorf("%s may be", brief(p))
		}
	}
}

func TestMayOfSteps(t *testing.T) {
	for _, s := range anySteps() {
		want := mayBeStep(s)
		for _, p := range [][]api.Step{path(s), path(s, key("a")), path(id("a", "b"), s), path(at(0), s, at(1))} {
			if may := paths.May(p); may != want {
				t.Errorf("%v: %t", p, may)
			}
			text := ""
			if want {
				text = written(p)
			}
			if told := paths.Text(p); told != text {
				t.Errorf("%v: %q, not %q", p, told, text)
			}
		}
	}
}

// texts of paths.
var texts = []struct {
	path []api.Step
	text string
}{
	{nil, "."}, {path(key("")), "/"}, {path(key(""), key("")), "//"}, {path(key("."), key("..")), "/./.."}, {path(key("a"), key("b.c")), "/a/b.c"},
	{path(key("a"), at(3), id("x", `"y"`)), `/a[3][x="y"]`}, {path(key("a/b")), "/a%2fb"}, {path(at(0), at(12)), "[0][12]"}, {path(at(math.MaxInt32), key("0")), "[2147483647]/0"},
	{path(id("", "")), "[=]"}, {path(id("a", "")), "[a=]"}, {path(id("", "a")), "[=a]"}, {path(id("0", "1e0")), "[0=1e0]"}, {path(id("[", "]"), id("=", "=")), "[%5b=%5d][%3d=%3d]"}, {path(id("a/b", "[1,2]"), key("%")), "[a%2fb=%5b1,2%5d]/%25"},
	{path(key("a/b[c]=%\n\x7f")), "/a%2fb%5bc%5d%3d%25%0a%7f"}, {path(key("%2f")), "/%252f"}, {path(key("é€\U0001F600\u2028\x80\xff")), "/é€\U0001F600\u2028\x80\xff"}, {path(key(" !\"#$&'()*+,-.:;<>?@\\^_`{|}~")), "/ !\"#$&'()*+,-.:;<>?@\\^_`{|}~"},
}

func TestText(t *testing.T) {
	for _, c := range texts {
		if text := paths.Text(c.path); text != c.text {
			t.Errorf("%v: %q, not %q", c.path, text, c.text)
		}
	}
	if text := paths.Text(often(at(10), api.MaxSteps)); text != strings.Repeat("[10]", api.MaxSteps) {
		t.Error(brief(text))
	}
	for _, p := range [][]api.Step{often(at(10), api.MaxSteps+1), path(at(-1)), path(key("a"), api.Step{Kind: 3}), path(api.Step{ID: "x"})} {
		if text := paths.Text(p); text != "" {
			t.Errorf("%s: %s", brief(p), brief(text))
		}
	}
}

// TestTextOfBytes: each byte is itself, or three bytes, in keys, in fields, and in IDs.
func TestTextOfBytes(t *testing.T) {
	for c := range 256 {
		s := string([]byte{byte(c)})
		spelt := s
		if c < 32 || c == 127 || strings.Contains("%/[]=", s) {
			spelt = "%" + string("0123456789abcdef"[c/16]) + string("0123456789abcdef"[c%16])
		}
		for _, x := range []struct {
			path []api.Step
			text string
		}{{path(key(s)), "/" + spelt}, {path(id(s, "x")), "[" + spelt + "=x]"}, {path(id("x", s)), "[x=" + spelt + "]"}, {path(key("a"+s+s), id(s+"a", "a"+s+"b")), "/a" + spelt + spelt + "[" + spelt + "a=a" + spelt + "b]"}} {
			if text := paths.Text(x.path); text != x.text {
				t.Errorf("%v: %q, not %q", x.path, text, x.text)
			}
			if p, ok := paths.Parse(x.text); !ok || !slices.Equal(p, x.path) {
				t.Errorf("%q: %v, %t", x.text, p, ok)
			}
		}
	}
}

// TestSpellings: of each byte's spellings in base 16 only those are read that are written.
func TestSpellings(t *testing.T) {
	for c := range 256 {
		s := string([]byte{byte(c)})
		written := paths.Text(path(key(s))) == fmt.Sprintf("/%%%02x", c)
		for _, small := range []bool{true, false} {
			spelt := fmt.Sprintf("%%%02x", c)
			if !small {
				spelt = fmt.Sprintf("%%%02X", c)
			}
			for form, want := range map[string][]api.Step{"/%": path(key(s)), "/a%b": path(key("a" + s + "b")), "[%=x]": path(id(s, "x")), "[x=%]": path(id("x", s)), "[1]/%": path(at(1), key(s))} {
				text := strings.Replace(form, "%", spelt, 1)
				p, ok := paths.Parse(text)
				if is := written && spelt == fmt.Sprintf("%%%02x", c); ok != is || ok && !slices.Equal(p, want) || !ok && len(p) > 0 {
					t.Errorf("%q: %v, %t", text, p, ok)
				}
			}
		}
	}
}

func TestParse(t *testing.T) {
	for _, c := range texts {
		if p, ok := paths.Parse(c.text); !ok || !slices.Equal(p, c.path) {
			t.Errorf("%q: %v, %t, not %v", c.text, p, ok, c.path)
		}
	}
	if p, ok := paths.Parse("[" + strconv.Itoa(math.MaxInt) + "]"); !ok || !slices.Equal(p, path(at(math.MaxInt))) {
		t.Errorf("the last place: %v, %t", p, ok)
	}
	if p, ok := paths.Parse(strings.Repeat("/[1][a=b]", 512/3) + "//"); !ok || len(p) != 512 {
		t.Errorf("512 steps: %d, %t", len(p), ok)
	}
	for _, s := range []string{
		"", "a", "..", "./", "./a", ".[0]", "/a\n", "/\x00", "\x00", "\x00/a", "\n", "/\x7f", "%", "%2f", "=", "]", "é", "\xff", "a/b",
		"/%", "/%2", "/a%", "/a%2", "/%2F", "/%5B", "/%41", "/%61", "/%20", "/%80", "/%ff", "/%2g", "/%g2", "/%%", "/%%%", "/%%25", "/%2/f", "/% 2f", "/%+f", "/%0a\n", "/%-1",
		"[", "[1", "[01]", "[00]", "[-1]", "[-0]", "[+1]", "[ 1]", "[1 ]", "[1]x", "[1]]", "[1]=", "[1]=a]", "[1][", "[1]2]", "[a]", "[]", "[1e0]", "[0x1]", "[1_0]", "[1.0]", "[%31]", "[1%]", "[٣]", "[9223372036854775808]", "[18446744073709551616]", "[99999999999999999999999]", "[1/a]", "[/]", "[[1]]", "[1[2]]",
		"[a=", "[a=b", "[a=b=c]", "[a==]", "[==]", "[a=b]c", "[a=b]]", "[a=b/]", "[a/=b]", "[a/b=c]", "[a[0]=b]", "[a=[0]]", "[a=b[]", "[=", "[=]x", "[a=b%]", "[a%=b]", "[a%4=b]", "[a=%5D]", "[a=b\n]", "[\n=b]",
		"/a]", "/a=b", "/=", "/]", "/a[", "/a[]", "/a[0", "/a[0]b", "/a[b]", "/a/b]", "/a/=",
		strings.Repeat("/a", 513), strings.Repeat("/", 513), strings.Repeat("[0]", 513), strings.Repeat("[=]", 513), strings.Repeat("/", 512) + "]", strings.Repeat("/", 512) + "\n",
	} {
		if p, ok := paths.Parse(s); ok || len(p) > 0 {
			t.Errorf("%s: %s, %t", brief(s), brief(p), ok)
		}
	}
}

// everyText of up to so many of some parts.
func everyText(parts []string, most int, look func(s string)) {
	look("")
	if most == 0 {
		return
	}
	for _, part := range parts {
		everyText(parts, most-1, func(s string) { look(part + s) })
	}
}

// sameAsRead holds Parse against the grammar, and against Text.
func sameAsRead(t *testing.T, s string) bool {
	p, ok := paths.Parse(s)
	want, is := read(s)
	if ok != is || !slices.Equal(p, want) {
		t.Fatalf("%q: %v, %t, not %v, %t", s, p, ok, want, is)
	}
	if ok && paths.Text(p) != s {
		t.Fatalf("%q: its path %v has the text %q", s, p, paths.Text(p))
	}
	return ok
}

func TestParseOfSmallTexts(t *testing.T) {
	few, many := 0, 0
	for most, parts := range map[int][]string{4: {"/", "[", "]", "=", "a", "0", "1", "-", ".", "%", "2", "f", "%2f", "%5b", "F", "\n", "é", "\xff", "\x00"}, 7: {"/", "[", "]", "=", "1", "%2f"}, 5: {"/", "[0", "]", "=", "%", "0", "a", "7", "f"}} {
		everyText(parts, most, func(s string) {
			many++
			if sameAsRead(t, s) {
				few++
			}
		})
	}
	if few < 5000 || many-few < 100000 {
		t.Errorf("%d of %d texts are paths'", few, many)
	}
}

// TestParseOfChangedTexts: of each byte at each place.
func TestParseOfChangedTexts(t *testing.T) {
	for _, s := range []string{".", `/a[3][x="y"]/b`, "/a%2fb[10]", "[=][%5b=%7f]//"} {
		for i := range len(s) + 1 {
			sameAsRead(t, s[:i])
			sameAsRead(t, s[i:])
			for c := range 256 {
				x := string([]byte{byte(c)})
				sameAsRead(t, s[:i]+x+s[i:])
				if i < len(s) {
					sameAsRead(t, s[:i]+x+s[i+1:])
				}
			}
		}
	}
}

// P16.2

func TestCmp(t *testing.T) {
	l := [][]api.Step{
		nil, path(key("")), path(key(""), key("")), path(key("\x00")), path(api.Step{ID: "b", Text: "A", At: -1}), path(api.Step{ID: "a", Text: "A"}), path(api.Step{ID: "b", Text: "A"}), path(api.Step{Text: "A", At: 7}),
		path(key("a")), path(key("a"), key("")), path(key("a"), key("z"), at(9)), path(key("a"), at(0)), path(key("a"), id("", "")), path(key("a\x00")), path(key("aa")), path(key("b")), path(key("é")), path(key("\xff")),
		path(at(math.MinInt)), path(at(-1)), path(at(0)), path(at(2)), path(at(2), key("a")), path(at(10)), path(at(math.MaxInt)), path(api.Step{Kind: api.StAt, Text: "a"}), path(api.Step{Kind: api.StAt, Text: "a", At: 1}), path(api.Step{Kind: api.StAt, Text: "a", At: 1, ID: "x"}),
		path(id("a", "")), path(id("a", "b")), path(id("a", "b"), at(0)), path(id("a", "c")), path(api.Step{Kind: api.StID, Text: "a", At: 1}), path(id("b", "")), path(api.Step{Kind: 3}), path(api.Step{Kind: 128}), path(api.Step{Kind: 255}),
	}
	for i, a := range l {
		for k, b := range l {
			want := 0
			if i < k {
				want = -1
			} else if i > k {
				want = 1
			}
			if order := paths.Cmp(a, b); order != want {
				t.Errorf("%v, %v: %d, not %d", a, b, order, want)
			}
		}
	}
	if paths.Cmp(nil, path()) != 0 || paths.Cmp(path(), nil) != 0 {
		t.Error("of no steps")
	}
	long := often(key("a"), 4*api.MaxSteps)
	if paths.Cmp(long, slices.Clone(long)) != 0 || paths.Cmp(long[1:], long) != -1 || paths.Cmp(append(slices.Clone(long), at(0)), append(slices.Clone(long), key("b"))) != 1 {
		t.Error("of more steps than may be")
	}
}

// smallPaths of up to three steps, of whatever kinds.
func smallPaths() [][]api.Step {
	few := path(key(""), key("a"), at(0), at(1), id("a", ""), id("a", "b"), api.Step{Kind: 3, Text: "a", At: 1, ID: "b"}, api.Step{Text: "a", At: -1}, api.Step{Kind: api.StAt, Text: "a"})
	l := [][]api.Step{nil}
	for i, first := 0, 0; i < 3; i++ {
		last := len(l)
		for _, shorter := range l[first:last] {
			for _, s := range few {
				l = append(l, append(slices.Clone(shorter), s))
			}
		}
		first = last
	}
	return l
}

func TestCmpOfEveryPair(t *testing.T) {
	l := smallPaths()
	for _, s := range anySteps() {
		l = append(l, path(s))
	}
	for _, a := range l {
		for _, b := range l {
			if order := paths.Cmp(a, b); order != ahead(a, b) {
				t.Fatalf("%v, %v: %d, not %d", a, b, order, ahead(a, b))
			}
		}
	}
}

func TestBegins(t *testing.T) {
	p := path(key("a"), at(3), id("x", `"y"`))
	for _, with := range [][]api.Step{nil, path(), p[:1], p[:2], p, slices.Clone(p)} {
		if !paths.Begins(p, with) {
			t.Errorf("not with %v", with)
		}
	}
	for _, with := range [][]api.Step{p[1:], p[2:], path(key("")), path(key("b")), path(key("a"), at(2)), path(key("a"), at(3), id("x", "y")), path(key("a"), at(3), id("", `"y"`)), path(key("a"), at(3), id("x", `"y"`), key("z")), path(at(3))} {
		if paths.Begins(p, with) {
			t.Errorf("with %v", with)
		}
	}
	if !paths.Begins(nil, nil) || !paths.Begins(path(), nil) || paths.Begins(nil, p) || paths.Begins(p[:2], p) {
		t.Error("of few steps")
	}
}

func TestBeginsOfEveryPair(t *testing.T) {
	l := smallPaths()
	for _, p := range l {
		for _, with := range l {
			if want := len(with) <= len(p) && slices.Equal(p[:len(with)], with); paths.Begins(p, with) != want {
				t.Fatalf("%v, %v: %t", p, with, !want)
			}
		}
	}
}

func TestTo(t *testing.T) {
	for _, p := range smallPaths() {
		for _, s := range path(key("z"), at(3), id("x", `"y"`), at(-1), api.Step{Kind: 77, Text: "a", ID: "b", At: -3}) {
			l := paths.To(p, s)
			if len(l) != len(p)+1 || !slices.Equal(l[:len(p)], p) || l[len(p)] != s {
				t.Fatalf("%v, %v: %v", p, s, l)
			}
		}
	}
	for _, many := range []int{api.MaxSteps - 1, api.MaxSteps, 4 * api.MaxSteps} {
		if l := paths.To(often(at(1), many), key("a")); len(l) != many+1 || l[many] != key("a") || l[many-1] != at(1) {
			t.Errorf("%d steps, and one more: %d", many, len(l))
		}
	}
}

// P16.3

// sample value, in which IDs are more than one's, and lists and maps are named alike.
func sample() api.Value {
	item := func(n string, more ...any) api.Value { return table(append([]any{"id", num(n)}, more...)...) }
	return table(
		"l", list(null, item("1e0", "n", str("first")), item("2e0"), item("1e0", "n", str("second")), table("n", str("second"), "id", of(api.VkInt, "3")), list(item("4e0")), item("5e0", "id2", num("1e0"))),
		"s", str("x"),
		"", table("", list(list(), table(), list(null)), "0", null),
		"t", list(table("id", str("1e0")), table("id", table("b", num("1e0"), "a", list())), table("id", table("a", list(), "b", num("1e0"))), table("", str("")), table("id", of(api.VkInt, "1e0"))),
		"e", list(), "m", table(), "=/[", table("]%", of(api.VkDate, "07:32:00")),
	)
}

func TestWalk(t *testing.T) {
	v := sample()
	for _, c := range []struct {
		path []api.Step
		want string
	}{
		{nil, said(v)}, {path(), said(v)}, {path(key("s")), "3:x"}, {path(key("l"), at(0)), "0:"}, {path(key("l"), at(2), key("id")), "2:2e0"}, {path(key("e")), "[]"}, {path(key("m")), "{}"},
		{path(key("l"), id("id", "1e0")), `{"id"=2:1e0 "n"=3:first}`}, {path(key("l"), id("n", `"second"`), key("id")), "2:1e0"}, {path(key("l"), id("id", "3"), key("n")), "3:second"}, {path(key("l"), id("id2", "1e0"), key("id")), "2:5e0"},
		{path(key("l"), at(5), id("id", "4e0")), `{"id"=2:4e0}`}, {path(key(""), key(""), at(2), at(0)), "0:"}, {path(key(""), key("0")), "0:"}, {path(key("=/["), key("]%")), "6:07:32:00"},
		{path(key("t"), id("id", `"1e0"`)), `{"id"=3:1e0}`}, {path(key("t"), id("id", "1e0")), `{"id"=4:1e0}`}, {path(key("t"), id("id", `{"a":[],"b":1e0}`)), `{"id"={"b"=2:1e0 "a"=[]}}`}, {path(key("t"), id("", `""`)), `{""=3:}`},
	} {
		if w, ok := paths.Walk(v, c.path); !ok || said(w) != c.want {
			t.Errorf("%v: %v, %t, not %s", c.path, w, ok, c.want)
		}
	}
	for _, p := range [][]api.Step{
		path(at(0)), path(key("q")), path(key("S")), path(id("s", `"x"`)), path(id("l", "")), path(id("0", "null")), path(id("", "[[],{},[null]]")), path(id("]%", "07:32:00")), path(key("s"), key("")), path(key("s"), at(0)), path(key("s"), id("", "")), path(key("l"), key("0")), path(key("l"), key("")), path(key("l"), at(7)), path(key("l"), at(math.MaxInt)), path(key("e"), at(0)), path(key("m"), key("")), path(key("m"), at(0)), path(key("0")),
		path(key("l"), id("id", "1")), path(key("l"), id("id", "6e0")), path(key("l"), id("id", "4e0")), path(key("l"), id("", "")), path(key("l"), id("n", "first")), path(key("l"), id("n", "")), path(key("l"), id("x", "")), path(key("l"), id("", "null")), path(key("t"), id("id", `{"b":1e0,"a":[]}`)), path(key("t"), id("", "")), path(key("l"), at(1), id("id", "1e0")), path(key("l"), id("id", "1e0"), key("q")),
		path(at(-1)), path(key("l"), at(-1)), path(key("l"), api.Step{Kind: 3}), path(api.Step{Text: "s", At: 1}), path(api.Step{Text: "s", ID: "x"}), path(key("l"), api.Step{Kind: api.StAt, Text: "0"}), path(key("l"), api.Step{Kind: api.StID, Text: "id", ID: "1e0", At: 1}), often(key("s"), api.MaxSteps+1), often(key("s"), api.MaxSteps),
	} {
		if w, ok := paths.Walk(v, p); ok || said(w) != "0:" {
			t.Errorf("%s: %v, %t", brief(p), w, ok)
		}
	}
}

// manyPaths that lead somewhere, or nowhere, in a value like sample.
func manyPaths(v api.Value) [][]api.Step {
	var l [][]api.Step
	more := path(key(""), key("id"), key("0"), at(0), at(1), at(7), id("id", "1e0"), id("id", `"1e0"`), id("", ""), id("n", `"second"`), at(-1), api.Step{Kind: 3})
	for _, known := range all(v, values.Text) {
		l = append(l, known.path)
		for _, s := range more {
			l = append(l, append(slices.Clone(known.path), s))
			for i := range known.path {
				l = append(l, slices.Insert(slices.Clone(known.path), i, s))
				changed := slices.Clone(known.path)
				changed[i] = s
				l = append(l, changed, slices.Delete(slices.Clone(known.path), i, i+1))
			}
		}
	}
	return l
}

// TestWalkOfAll holds Walk against all that there is to be walked to.
func TestWalkOfAll(t *testing.T) {
	for _, v := range []api.Value{sample(), list(sample(), sample()), null, str("x"), list(), table(), list(list(null), list(table("id", list(table("id", list())))))} {
		there := map[string]string{}
		for _, known := range all(v, values.Text) {
			there[fmt.Sprintf("%#v", known.path)] = said(known.to)
		}
		for _, p := range append(manyPaths(v), smallPaths()...) {
			w, ok := paths.Walk(v, p)
			want, is := there[fmt.Sprintf("%#v", p)]
			if len(p) == 0 {
				want, is = said(v), true
			}
			if !is {
				want = "0:"
			}
			if ok != is || said(w) != want {
				t.Fatalf("%v: %s, %t, not %s, %t", p, brief(said(w)), ok, brief(want), is)
			}
		}
	}
}

func TestWalkOfBadValues(t *testing.T) {
	for _, bad := range []api.Value{{Kind: 9}, {Kind: api.VkNull, Text: "x"}, of(api.VkBool, "yes"), num(""), {Kind: api.VkMap, Keys: []string{"a", "a"}, List: []api.Value{null, null}}, {Kind: api.VkMap, Keys: []string{"a"}}, {Kind: api.VkMap, List: []api.Value{null}}, {Kind: api.VkStr, Keys: []string{"a"}, List: []api.Value{null}}, {Kind: api.VkList, Keys: []string{"a"}, List: []api.Value{null}}} {
		for _, p := range [][]api.Step{nil, path(key("a")), path(at(0)), path(key("b")), path(key("b"), at(1)), path(id("a", "null"))} {
			for _, v := range []api.Value{bad, table("a", null, "b", bad), table("b", list(bad, null)), list(table("a", null), bad)} {
				if w, ok := paths.Walk(v, p); ok || said(w) != "0:" {
					t.Errorf("%v, %v: %v, %t", v, p, w, ok)
				}
			}
		}
	}
}

func TestWalkDeep(t *testing.T) {
	v, p := str("x"), path()
	for i := range api.MaxDepth {
		switch i % 3 {
		case 0:
			v, p = list(null, v), slices.Insert(p, 0, at(1))
		case 1:
			v, p = table("b", null, "a", v), slices.Insert(p, 0, key("a"))
		case 2:
			v, p = list(table("a", num("1e0")), v), slices.Insert(p, 0, id("b", "null"))
		}
	}
	for i := range len(p) + 1 {
		w, ok := paths.Walk(v, p[:i])
		rest, also := paths.Walk(w, p[i:])
		if !ok || !also || values.Deep(w) != api.MaxDepth-i || said(rest) != "3:x" {
			t.Errorf("%d steps: deep %d, %s, %t, %t", i, values.Deep(w), brief(said(rest)), ok, also)
		}
	}
	if w, ok := paths.Walk(list(v), path(at(0))); ok || said(w) != "0:" {
		t.Error("of a value deeper than may be")
	}
}

// P16.4

func TestTextsAreUnlike(t *testing.T) {
	whose := map[string][]api.Step{}
	look := func(p []api.Step) {
		text := paths.Text(p)
		if other, there := whose[text]; there && !slices.Equal(other, p) {
			t.Fatalf("%v and %v have both %q", other, p, text)
		}
		whose[text] = p
		if text != written(p) || text == "" || strings.ContainsAny(text, "\n\r\v\f\x00\x7f") {
			t.Fatalf("%v: %q", p, text)
		}
		if again, ok := paths.Parse(text); !ok || paths.Cmp(again, p) != 0 || !slices.Equal(again, p) {
			t.Fatalf("%v: %q is read as %v, %t", p, text, again, ok)
		}
	}
	look(nil)
	l := goodSteps()
	for _, a := range l {
		look(path(a))
		for _, b := range l {
			look(path(a, b))
		}
	}
	r := rand.New(rand.NewSource(1))
	for range 3000 {
		p := path()
		for range r.Intn(40) {
			p = append(p, l[r.Intn(len(l))])
		}
		look(p)
	}
	if len(whose) < len(l)*len(l) {
		t.Errorf("%d texts", len(whose))
	}
}

func TestTextsOfRandomKeys(t *testing.T) {
	r := rand.New(rand.NewSource(2))
	for range 2000 {
		b := make([]byte, r.Intn(60))
		r.Read(b)
		p := path(key(string(b)), id(string(b[len(b)/2:]), string(b[:len(b)/2])), at(r.Int()))
		text := paths.Text(p)
		if again, ok := paths.Parse(text); !ok || !slices.Equal(again, p) || text != written(p) {
			t.Fatalf("%v: %q is read as %v, %t", p, text, again, ok)
		}
	}
}

func TestWalksOneBehindTheOther(t *testing.T) {
	met := 0
	for _, v := range []api.Value{sample(), list(null, list(table("id", num("1e0"))))} {
		for _, first := range all(v, values.Text) {
			w, ok := paths.Walk(v, first.path)
			if !ok {
				t.Fatalf("%v: nothing", first.path)
			}
			for _, p := range append(manyPaths(w), path(key("q"))) {
				x, there := paths.Walk(w, p)
				y, also := paths.Walk(v, slices.Concat(first.path, p))
				if there != also || said(x) != said(y) {
					t.Fatalf("%v, then %v: %v, %t, but %v, %t", first.path, p, x, there, y, also)
				}
				if there {
					met++
				}
			}
		}
	}
	if met < 1000 {
		t.Errorf("only %d walks led somewhere", met)
	}
}

// R1

func TestNothing(t *testing.T) {
	if !paths.May(nil) || paths.Text(nil) != "." || paths.Cmp(nil, nil) != 0 || !paths.Begins(nil, nil) {
		t.Error("of no path")
	}
	if p, ok := paths.Parse(""); ok || p != nil {
		t.Error(p, ok)
	}
	if p := paths.To(nil, api.Step{}); !slices.Equal(p, path(key(""))) {
		t.Error(p)
	}
	if v, ok := paths.Walk(null, nil); !ok || said(v) != "0:" {
		t.Error(v, ok)
	}
}

func TestListsInThemselves(t *testing.T) {
	l := make([]api.Value, 1)
	l[0] = list(l...)
	l[0].List = l
	m := table("a", null)
	m.List[0] = api.Value{Kind: api.VkMap, Keys: m.Keys, List: m.List}
	for _, v := range []api.Value{l[0], m, list(m)} {
		for _, p := range [][]api.Step{nil, path(at(0)), path(key("a")), path(id("a", "x")), often(at(0), api.MaxSteps), often(key("a"), 300)} {
			if w, ok := paths.Walk(v, p); ok || w.Kind != 0 || w.List != nil || w.Keys != nil {
				t.Errorf("%s: something", brief(p))
			}
		}
	}
}

func TestGreatTexts(t *testing.T) {
	s := strings.Repeat("a/", 1<<20)
	if p, ok := paths.Parse(paths.Text(path(key(s), id(s, s)))); !ok || !slices.Equal(p, path(key(s), id(s, s))) {
		t.Error("of great keys")
	}
	for _, text := range []string{"/" + s, "[" + s, "[" + strings.Repeat("1", 1<<20) + "]", "/" + strings.Repeat("%", 1<<20), strings.Repeat("[", 1<<20), strings.Repeat("[=", 1<<20)} {
		if p, ok := paths.Parse(text); ok || p != nil {
			t.Errorf("%s: %d steps, %t", brief(text), len(p), ok)
		}
	}
}

func TestNothingIsChanged(t *testing.T) {
	room := append(path(key("l"), id("id", "1e0"), key("n")), key("behind"), key("behind"))
	p := room[:3]
	with := room[:2]
	v := sample()
	paths.May(p)
	paths.Text(p)
	paths.Cmp(p, with)
	paths.Begins(p, with)
	paths.To(p, at(1))
	paths.To(with, at(1))
	if w, ok := paths.Walk(v, p); !ok || said(w) != "3:first" {
		t.Error(w, ok)
	}
	if !slices.Equal(room, path(key("l"), id("id", "1e0"), key("n"), key("behind"), key("behind"))) || said(v) != said(sample()) {
		t.Error(room, v)
	}
}

// R4

// shares tells if a text stands within another one's memory.
func shares(a, b string) bool {
	at, from := uintptr(unsafe.Pointer(unsafe.StringData(a))), uintptr(unsafe.Pointer(unsafe.StringData(b)))
	return from <= at && at < from+uintptr(len(b))
}

func TestStepsAreTheirOwn(t *testing.T) {
	p, s := make([]api.Step, 2, 9), id("field", "name")
	p[0], p[1] = key("key"), id("x", "y")
	l, other := paths.To(p, s), paths.To(p, at(1))
	if cap(l) != len(l) || cap(other) != len(other) {
		t.Error("room behind")
	}
	for i, from := range append(slices.Clone(p), s) {
		if shares(l[i].Text, from.Text) || shares(l[i].ID, from.ID) {
			t.Errorf("step %d: its texts are the path's", i)
		}
	}
	clear(l)
	if !slices.Equal(other, path(key("key"), id("x", "y"), at(1))) || p[0] != key("key") {
		t.Error(other, p)
	}
}

func TestReadStepsAreTheirOwn(t *testing.T) {
	for _, text := range []string{".", "/a", "/abc[3][def=ghi]", "/a/b/c/d/e", "/a%2fb[%25=x]//"} {
		p, ok := paths.Parse(text)
		if !ok || cap(p) != len(p) {
			t.Errorf("%q: %d steps, room for %d, %t", text, len(p), cap(p), ok)
		}
		for _, s := range p {
			if shares(s.Text, text) || shares(s.ID, text) {
				t.Errorf("%q: %v stands in it", text, s)
			}
		}
	}
}

// apart tells if two values that say the same share no memory, and the first one has no room behind.
func apart(v, w api.Value) bool {
	ok := cap(v.List) == len(v.List) && cap(v.Keys) == len(v.Keys) && !shares(v.Text, w.Text)
	for i := range v.List {
		ok = ok && &v.List[i] != &w.List[i] && apart(v.List[i], w.List[i])
	}
	for i := range v.Keys {
		ok = ok && &v.Keys[i] != &w.Keys[i] && !shares(v.Keys[i], w.Keys[i])
	}
	return ok
}

func TestValuesAreTheirOwn(t *testing.T) {
	v := sample()
	for _, known := range all(v, values.Text) {
		if w, ok := paths.Walk(v, known.path); !ok || !apart(w, known.to) {
			t.Errorf("%v: it is the value's memory", known.path)
		}
	}
	shared := []api.Value{null, str("x")}
	v = list(list(shared...), list(shared...))
	w, _ := paths.Walk(v, nil)
	w.List[0].List[1] = str("spoilt")
	if said(w.List[1]) != "[0: 3:x]" || said(v) != "[[0: 3:x] [0: 3:x]]" {
		t.Error(w, v)
	}
}
