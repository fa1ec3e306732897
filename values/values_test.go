package values_test

import (
	"encoding/json"
	"math/rand"
	"reflect"
	"slices"
	"strconv"
	"strings"
	"testing"
	"unsafe"

	"inarch/api"
	"inarch/values"
)

var (
	null = api.Value{}
	yes  = of(api.VkBool, "true")
	no   = of(api.VkBool, "false")
)

func of(kind api.Kind, text string) api.Value { return api.Value{Kind: kind, Text: text} }

func num(text string) api.Value { return of(api.VkNum, text) }

func str(text string) api.Value { return of(api.VkStr, text) }

func list(l ...api.Value) api.Value { return api.Value{Kind: api.VkList, List: l} }

// table is a map, of keys and what they have in turn.
func table(entries ...any) api.Value {
	v := api.Value{Kind: api.VkMap}
	for i := 0; i < len(entries); i += 2 {
		v.Keys, v.List = append(v.Keys, entries[i].(string)), append(v.List, entries[i+1].(api.Value))
	}
	return v
}

// inLists is a value within so many lists.
func inLists(v api.Value, many int) api.Value {
	for range many {
		v = list(v)
	}
	return v
}

// inTables is a value within so many lists and maps, by turns.
func inTables(v api.Value, many int) api.Value {
	for i := range many {
		if i%2 == 0 {
			v = table("a", num("1"), "b", v)
		} else {
			v = list(null, v, str("x"))
		}
	}
	return v
}

// scalars of all kinds, with texts that are others' parts.
func scalars() []api.Value {
	l := []api.Value{null, yes, no}
	for _, kind := range []api.Kind{api.VkNum, api.VkStr, api.VkInt, api.VkFloat, api.VkDate} {
		for _, text := range []string{"1", "10", "true", "null", ",", "]", `"`, `\`, "[]", "\xFF", `1,1`, `"a"`, `:`} {
			l = append(l, of(kind, text))
		}
	}
	return append(l, str(""), str("a"), str("\x00\n"))
}

// lists of up to so many of some values.
func lists(from []api.Value, most int) []api.Value {
	l := []api.Value{list()}
	for first := 0; most > 0; most-- {
		last := len(l)
		for _, shorter := range l[first:last] {
			for _, v := range from {
				l = append(l, list(append(slices.Clone(shorter.List), v)...))
			}
		}
		first = last
	}
	return l
}

// tables of up to two of some values, by some keys, in either order.
func tables(keys []string, from []api.Value) []api.Value {
	l := []api.Value{table()}
	for _, key := range keys {
		for _, v := range from {
			l = append(l, table(key, v))
			for _, other := range keys {
				for _, w := range from {
					if key != other {
						l = append(l, table(key, v, other, w))
					}
				}
			}
		}
	}
	return l
}

// good values, all of which may be; many of them are the same as others.
func good() []api.Value {
	few := []api.Value{null, num("1"), str("1"), num("1,1"), list(), list(num("1")), table(), table("a", num("1"))}
	l := scalars()
	l = append(l, lists(few, 2)...)
	l = append(l, lists([]api.Value{num("1"), of(api.VkInt, "1")}, 3)...)
	l = append(l, tables([]string{"", "a", "b", "\xFF"}, few[:6])...)
	l = append(l, list(table("b", num("1"), "a", null)), list(table("a", null, "b", num("1"))), list(table("a", null, "b", num("2"))))
	l = append(l, table("x", table("b", num("1"), "a", null)), table("x", table("a", null, "b", num("1"))), table("x", table("a", null, "b", list())))
	l = append(l, table("a", null, "b", null, "c", null), table("c", null, "b", null, "a", null), table("b", null, "c", null, "a", null), table("c", null, "b", list(), "a", null))
	l = append(l, table(`a"`, null), table(`a":null,"b`, null), table(`a`, null, `b`, null), table(`a\`, null), table("é", null), table("aa", null), table("A", null))
	return l
}

// bad values, none of which may be.
func bad() []api.Value {
	l := []api.Value{{Kind: 9}, {Kind: 10}, {Kind: 255}, {Kind: 9, Text: "x"}, {Kind: 9, List: []api.Value{null}}, {Kind: 9, List: []api.Value{null}, Keys: []string{"a"}}}
	// Texts.
	for _, text := range []string{"x", " ", "null", "\x00"} {
		l = append(l, of(api.VkNull, text), of(api.VkList, text), of(api.VkMap, text), of(9, text))
	}
	for _, text := range []string{"", "True", "TRUE", "t", "truee", "true ", " false", "falsetrue", "0", "1", "null"} {
		l = append(l, of(api.VkBool, text))
	}
	for _, kind := range []api.Kind{api.VkNum, api.VkInt, api.VkFloat, api.VkDate} {
		l = append(l, of(kind, ""))
	}
	l = append(l, api.Value{Kind: api.VkList, Text: "x", List: []api.Value{null}}, api.Value{Kind: api.VkMap, Text: "x", List: []api.Value{null}, Keys: []string{"a"}})
	// Lists and keys of what has none.
	for _, v := range []api.Value{null, yes, num("1"), str(""), str("x"), of(api.VkInt, "1"), of(api.VkFloat, "1e0"), of(api.VkDate, "07:32:00")} {
		l = append(l, api.Value{Kind: v.Kind, Text: v.Text, List: []api.Value{null}}, api.Value{Kind: v.Kind, Text: v.Text, Keys: []string{"a"}}, api.Value{Kind: v.Kind, Text: v.Text, List: []api.Value{null}, Keys: []string{"a"}})
	}
	// Keys.
	for _, keys := range [][]string{{""}, {"a"}, {"a", "b"}} {
		l = append(l, api.Value{Kind: api.VkList, Keys: keys}, api.Value{Kind: api.VkList, Keys: keys, List: []api.Value{null, null}[:len(keys)]})
		l = append(l, api.Value{Kind: api.VkMap, Keys: keys}, api.Value{Kind: api.VkMap, Keys: keys, List: []api.Value{null, null, null}[:len(keys)+1]}, api.Value{Kind: api.VkMap, Keys: keys, List: []api.Value{null, null}[:len(keys)-1]})
	}
	l = append(l, api.Value{Kind: api.VkMap, List: []api.Value{null}}, table("a", null, "a", null), table("a", null, "a", num("1")), table("", null, "", null), table("a", null, "b", null, "a", null), table("b", null, "a", null, "c", null, "b", null), table("\xFF", null, "\xFF", null))
	return l
}

// P14.1

func TestMay(t *testing.T) {
	for _, v := range good() {
		if !mayBe(v) || !values.May(v) {
			t.Errorf("%v", v)
		}
	}
	for _, v := range bad() {
		if mayBe(v) || values.May(v) {
			t.Errorf("%v", v)
		}
	}
	if a, b := table("a", null, "A", null, "aa", null, "a ", null, "\u00e9", null, "e\u0301", null, "\xFE", null, "\xFF", null), of(api.VkNum, "no number"); !values.May(a) || !values.May(b) {
		t.Error("keys that are alike by more than bytes, and texts of whatever form, may be")
	}
	empty := api.Value{Kind: api.VkStr, List: []api.Value{}, Keys: []string{}}
	if !values.May(empty) || !values.May(api.Value{Kind: api.VkMap, List: []api.Value{}}) || !values.May(api.Value{Kind: api.VkList, Keys: []string{}}) {
		t.Error("a list of nothing is none")
	}
}

// TestMayOfParts: what may not be makes all that it is in so.
func TestMayOfParts(t *testing.T) {
	for _, v := range bad() {
		for _, w := range []api.Value{list(v), list(null, v), list(v, null), list(list(), list(v), null), table("a", v), table("a", null, "b", v), table("b", v, "a", null), list(table("a", list(v))), inLists(v, 200), inTables(v, 201)} {
			if values.May(w) {
				t.Errorf("%v", w)
			}
		}
	}
	for _, v := range good() {
		for _, w := range []api.Value{list(v), list(null, v, v), table("a", v, "b", v), list(table("a", list(v))), inLists(v, 200), inTables(v, 201)} {
			if !values.May(w) {
				t.Errorf("%v", w)
			}
		}
	}
}

func TestMayOfEveryKind(t *testing.T) {
	for kind := range 256 {
		for _, text := range []string{"", "x", "true"} {
			for many := range 3 {
				for others := range 3 {
					v := api.Value{Kind: api.Kind(kind), Text: text, List: []api.Value{null, yes}[:many], Keys: []string{"a", "b"}[:others]}
					if values.May(v) != mayBe(v) {
						t.Errorf("%v", v)
					}
				}
			}
		}
	}
}

func TestMayOfDepth(t *testing.T) {
	for _, many := range []int{0, 1, 2, 254, 255, 256, 257, 258, 512, 5000} {
		for _, v := range []api.Value{null, str("x"), list(), table(), list(null), table("a", num("1"))} {
			for _, w := range []api.Value{inLists(v, many), inTables(v, many)} {
				may := deepOf(w) <= api.MaxDepth
				if values.May(w) != may || values.May(list(null, w)) != (deepOf(w) < api.MaxDepth) || values.May(table("a", null, "b", w)) != (deepOf(w) < api.MaxDepth) {
					t.Errorf("%v in %d", v, many)
				}
				if values.Same(w, w) != may || (values.Key(w) != "") != may || (values.Text(w) != "") != may || (values.Deep(w) == deepOf(w)) != may || (values.Size(w) == sizeOf(w)) != may {
					t.Errorf("%v in %d: others than May", v, many)
				}
			}
		}
	}
}

// P14.2

// rising are values each of which stands ahead of all that follow.
var rising = []api.Value{
	null, no, yes,
	num("-1"), num("1"), num("10"), num("2"), num("\xFF"),
	str(""), str("\x00"), str("A"), str("a"), str("a\x00"), str("aa"), str("b"), str("z"), str("é"), str("\xFF"),
	of(api.VkInt, "-1"), of(api.VkInt, "0"), of(api.VkInt, "10"), of(api.VkInt, "9"),
	of(api.VkFloat, "-inf"), of(api.VkFloat, "1e0"), of(api.VkFloat, "inf"), of(api.VkFloat, "nan"),
	of(api.VkDate, "07:32:00"), of(api.VkDate, "1979-05-27"),
	list(), list(null), list(null, null), list(null, null, null), list(null, str("a")), list(null, list()), list(num("1")), list(num("1"), null), list(num("2")), list(str("a"), str("b")), list(str("b"), str("a")), list(list()), list(list(null)), list(list(null), null), list(list(num("1"))), list(table()), list(table("a", null)),
	table(), table("", null), table("", num("1")), table("a", null), table("b", num("1"), "a", null), table("b", num("2"), "a", null), table("a", null, "c", null), table("a", num("1")), table("a", num("1"), "b", null), table("a", num("1"), "b", null, "c", null), table("b", table(), "a", num("1")), table("c", null, "a", num("1")), table("a", num("2")), table("a", list()), table("a", list(null)), table("a", table()), table("a\x00", null), table("aa", null), table("b", null), table("c", num("0"), "b", null), table("b", num("0")), table("b", num("0"), "c", null), table("é", null), table("\xFF", null),
}

func TestCmpOfRising(t *testing.T) {
	for i, v := range rising {
		for k, w := range rising {
			want := 0
			if i < k {
				want = -1
			} else if i > k {
				want = 1
			}
			if values.Cmp(v, w) != want || values.Same(v, w) != (i == k) {
				t.Errorf("%s, %s: %d, %v", values.Text(v), values.Text(w), values.Cmp(v, w), values.Same(v, w))
			}
		}
	}
}

func TestSameOfTurnedKeys(t *testing.T) {
	for _, c := range []struct {
		a, b api.Value
		same bool
	}{
		{table("a", null, "b", num("1")), table("b", num("1"), "a", null), true},
		{table("a", null, "b", num("1")), table("b", null, "a", num("1")), false},
		{table("a", null, "b", null), table("a", null, "c", null), false},
		{table("a", null, "b", null), table("a", null), false},
		{list(table("a", yes, "b", no)), list(table("b", no, "a", yes)), true},
		{table("x", table("a", yes, "b", no), "y", list()), table("y", list(), "x", table("b", no, "a", yes)), true},
		{list(yes, no), list(no, yes), false},
		{list(yes), list(yes, yes), false},
		{num("1"), of(api.VkInt, "1"), false},
		{num("1"), str("1"), false},
		{of(api.VkFloat, "1"), of(api.VkDate, "1"), false},
		{list(), table(), false},
		{list(), api.Value{Kind: api.VkList, List: []api.Value{}, Keys: []string{}}, true},
		{null, api.Value{List: []api.Value{}, Keys: []string{}}, true},
		{num("10e0"), num("1e1"), false},
		{str("\u00e9"), str("e\u0301"), false},
		{str("a"), str("A"), false},
	} {
		if values.Same(c.a, c.b) != c.same || values.Same(c.b, c.a) != c.same || (values.Cmp(c.a, c.b) == 0) != c.same || (values.Key(c.a) == values.Key(c.b)) != c.same {
			t.Errorf("%s, %s", values.Text(c.a), values.Text(c.b))
		}
	}
}

// TestOfBad: of values one of which may not be.
func TestOfBad(t *testing.T) {
	worse := append(bad(), list(null, num("")), table("a", of(api.VkBool, "")), inLists(null, 257))
	for _, v := range worse {
		for _, w := range append(slices.Clone(rising), v) {
			if values.Same(v, w) || values.Same(w, v) || values.Cmp(v, w) != 0 || values.Cmp(w, v) != 0 {
				t.Errorf("%v, %v", v, w)
			}
		}
		if values.Size(v) != 0 || values.Deep(v) != 0 || values.Text(v) != "" || values.Key(v) != "" {
			t.Errorf("%v", v)
		}
	}
}

// TestOfEveryPair: values are held against each other as the model does it.
func TestOfEveryPair(t *testing.T) {
	all := good()
	keys := make([]string, len(all))
	for i, v := range all {
		keys[i] = values.Key(v)
	}
	for i, v := range all {
		for k, w := range all {
			same := areSame(v, w)
			if values.Same(v, w) != same || values.Cmp(v, w) != ahead(v, w) || (keys[i] == keys[k]) != same {
				t.Fatalf("%v, %v: %v, %d, %q, %q", v, w, values.Same(v, w), values.Cmp(v, w), keys[i], keys[k])
			}
		}
	}
}

// P14.3

func TestSizeDeepText(t *testing.T) {
	for _, c := range []struct {
		v          api.Value
		size, deep int
		text       string
	}{
		{null, 1, 0, "null"}, {yes, 1, 0, "true"}, {no, 1, 0, "false"}, {num("-12e-1"), 1, 0, "-12e-1"},
		{str(""), 1, 0, `""`}, {str("null"), 1, 0, `"null"`}, {str("a\"\\\n\x01é/"), 1, 0, `"a\"\\\n\u0001é/"`},
		{of(api.VkInt, "-17"), 1, 0, "-17"}, {of(api.VkFloat, "nan"), 1, 0, "nan"}, {of(api.VkDate, "1979-05-27T07:32:00.5Z"), 1, 0, "1979-05-27T07:32:00.5Z"},
		{list(), 1, 1, "[]"}, {list(null), 2, 1, "[null]"}, {list(num("3e0"), num("1e0"), num("2e0")), 4, 1, "[3e0,1e0,2e0]"}, {list(list(), list(list()), null), 5, 3, "[[],[[]],null]"},
		{table(), 1, 1, "{}"}, {table("a", null), 2, 1, `{"a":null}`}, {table("b", yes, "", no, "a\"", list()), 4, 2, `{"":false,"a\"":[],"b":true}`},
		{table("aa", null, "a", null, "B", null, "\xFF", null, "é", null), 6, 1, "{\"B\":null,\"a\":null,\"aa\":null,\"é\":null,\"\xFF\":null}"},
		{table("b", list(num("1e0"), null), "a", str("x")), 5, 2, `{"a":"x","b":[1e0,null]}`},
		{table("a", str("x"), "b", list(num("1e0"), null)), 5, 2, `{"a":"x","b":[1e0,null]}`},
		{list(table("a", list(table("a", table())))), 5, 5, `[{"a":[{"a":{}}]}]`},
		{num("no, number"), 1, 0, "no, number"}, {list(num(","), num("[")), 3, 1, "[,,[]"}, {table("a", num("}"), "b", num(",")), 3, 1, `{"a":},"b":,}`},
	} {
		if values.Size(c.v) != c.size || values.Deep(c.v) != c.deep || values.Text(c.v) != c.text {
			t.Errorf("%v: %d, %d, %s", c.v, values.Size(c.v), values.Deep(c.v), values.Text(c.v))
		}
	}
	for _, v := range good() {
		if values.Size(v) != sizeOf(v) || values.Deep(v) != deepOf(v) || values.Text(v) != textOf(v) {
			t.Errorf("%v: %d, %d, %s", v, values.Size(v), values.Deep(v), values.Text(v))
		}
	}
}

// TestTextOfEveryByte: strings, and keys, with each byte in them.
func TestTextOfEveryByte(t *testing.T) {
	for c := range 256 {
		s := "a" + string([]byte{byte(c)}) + "b"
		if got, want := values.Text(table(s, list(str(s)))), "{"+quoted(s)+":["+quoted(s)+"]}"; got != want {
			t.Errorf("%d: %q, not %q", c, got, want)
		}
	}
}

// TestTextIsJSON: what JSON can tell is told so that the library reads it, with keys in their order, on one line.
func TestTextIsJSON(t *testing.T) {
	v := table("b\n", list(num("1e0"), num("-25e-1"), yes, null, str("x\r\ny\t\x02\"")), "a", table("z", list(), "y", table()), "é", str("€😀"))
	text := values.Text(v)
	var read any
	if err := json.Unmarshal([]byte(text), &read); err != nil || strings.ContainsAny(text, "\n\r") {
		t.Fatalf("%s: %v", text, err)
	}
	want := map[string]any{"b\n": []any{1.0, -2.5, true, nil, "x\r\ny\t\x02\""}, "a": map[string]any{"z": []any{}, "y": map[string]any{}}, "é": "€😀"}
	if !reflect.DeepEqual(read, want) {
		t.Errorf("%s: %v", text, read)
	}
}

// TestKeys: just the same values have one, whatever their texts seem to be.
func TestKeys(t *testing.T) {
	met := map[string]api.Value{}
	texts := []string{"1", ",", "1,1", "]", "[", "}", `"`, `\`, `\"`, `",`, `",3"`, `2"1"`, `1",2"1`, "a", ":", "null", "\x00"}
	var parts []api.Value
	for _, text := range texts {
		for _, kind := range []api.Kind{api.VkNum, api.VkStr, api.VkInt, api.VkFloat, api.VkDate} {
			parts = append(parts, of(kind, text))
		}
	}
	look := func(v api.Value) {
		key := values.Key(v)
		w, there := met[key]
		if key == "" || there && !areSame(v, w) {
			t.Fatalf("%v, %v: %q", v, w, key)
		}
		met[key] = v
	}
	for _, v := range lists(append(parts, list(), list(list()), table(), null), 2) {
		look(v)
		look(list(v))
		look(table("a", v))
	}
	for _, a := range texts {
		for _, b := range texts {
			for _, v := range parts[:20] {
				look(table(a, v))
				look(table(a, list(v, str(b))))
				if a != b {
					look(table(a, v, b, null))
				}
			}
		}
	}
}

// P14.4

func TestGet(t *testing.T) {
	v := table("b", list(num("1e0"), null), "", str("x"), "a", table("c", yes, "b", no), "n", null, "\xFF", num("2"))
	for i, key := range v.Keys {
		if got, ok := values.Get(v, key); !ok || !reflect.DeepEqual(got, v.List[i]) {
			t.Errorf("%q: %v, %v", key, got, ok)
		}
	}
	none := func(v api.Value, key string) {
		t.Helper()
		if got, ok := values.Get(v, key); ok || !reflect.DeepEqual(got, api.Value{}) {
			t.Errorf("%v, %q: %v, %v", v, key, got, ok)
		}
	}
	for _, key := range []string{"c", "B", "a ", "aa", "\xFE", "\x00", "bb", "1", "0"} {
		none(v, key)
	}
	for _, v := range append(scalars(), list(), list(null), table()) {
		none(v, "")
		none(v, "a")
	}
	for _, v := range bad() {
		none(v, "")
		none(v, "a")
	}
	none(table("a", yes, "b", num("")), "a")
	none(table("a", num(""), "b", yes), "a")
	none(table("a", yes, "a", no), "a")
	none(table("a", yes, "b", list(list(api.Value{Kind: 9}))), "a")
	none(api.Value{Kind: api.VkMap, Keys: []string{"a", "b"}, List: []api.Value{yes}}, "a")
	none(api.Value{Kind: api.VkMap, Keys: []string{"a", "b"}, List: []api.Value{yes}}, "b")
	none(api.Value{Kind: api.VkList, Keys: []string{"a"}, List: []api.Value{yes}}, "a")
	none(api.Value{Kind: api.VkMap, Text: "x", Keys: []string{"a"}, List: []api.Value{yes}}, "a")
	none(table("a", yes, "b", inLists(null, 256)), "a")
	if got, ok := values.Get(table("a", yes, "b", inLists(null, 255)), "a"); !ok || !reflect.DeepEqual(got, yes) {
		t.Errorf("%v, %v", got, ok)
	}
}

// P14.5

// random values that may be, of few texts, so that many are the same.
func random(r *rand.Rand, most int) api.Value {
	few := []api.Value{null, yes, num("1"), num("2"), str("1"), of(api.VkInt, "1")}
	pick := r.Intn(10)
	if most == 0 || pick < 4 {
		return few[r.Intn(len(few))]
	}
	v := list()
	if pick < 7 {
		v = table()
	}
	for _, i := range r.Perm(4)[:r.Intn(4)] {
		v.List = append(v.List, random(r, most-1))
		if v.Kind == api.VkMap {
			v.Keys = append(v.Keys, string(rune('a'+i)))
		}
	}
	return v
}

// turned is a value with the entries of all its maps in another order.
func turned(r *rand.Rand, v api.Value) api.Value {
	w := api.Value{Kind: v.Kind, Text: v.Text}
	places := r.Perm(len(v.List))
	if v.Kind != api.VkMap {
		slices.Sort(places)
	}
	for _, i := range places {
		w.List = append(w.List, turned(r, v.List[i]))
		if v.Kind == api.VkMap {
			w.Keys = append(w.Keys, v.Keys[i])
		}
	}
	return w
}

func TestOrderOfRandom(t *testing.T) {
	r := rand.New(rand.NewSource(14))
	all := good()
	for range 600 {
		v := random(r, 3)
		w := turned(r, v)
		if !values.Same(v, w) || values.Cmp(v, w) != 0 || values.Text(v) != values.Text(w) || values.Key(v) != values.Key(w) || values.Size(v) != values.Size(w) || values.Deep(v) != values.Deep(w) {
			t.Fatalf("%v, %v", v, w)
		}
		all = append(all, v)
	}
	// If each stands behind none of those that follow, what is ahead of what is ahead is.
	slices.SortFunc(all, values.Cmp)
	for i, v := range all {
		for k, w := range all {
			c := values.Cmp(v, w)
			if c != -values.Cmp(w, v) || i < k && c > 0 || (c == 0) != values.Same(v, w) || c == 0 && (values.Text(v) != values.Text(w) || values.Size(v) != values.Size(w)) || c != ahead(v, w) {
				t.Fatalf("%v, %v: %d", v, w, c)
			}
		}
		if i > 0 && values.Same(all[i-1], v) != (values.Key(all[i-1]) == values.Key(v)) {
			t.Fatalf("%v, %v", all[i-1], v)
		}
	}
}

// R1

// TestWithin: values that hold themselves are deeper than may be.
func TestWithin(t *testing.T) {
	one := make([]api.Value, 1)
	one[0] = list(one...)
	many := make([]api.Value, 3)
	for i := range many {
		many[i] = list(many...)
	}
	last := []api.Value{null, list(num("1")), null}
	last[2] = list(last...)
	keyed := make([]api.Value, 2)
	keyed[0], keyed[1] = table("a", yes), api.Value{Kind: api.VkMap, Keys: []string{"a", "b"}, List: keyed}
	first, second := make([]api.Value, 2), make([]api.Value, 2)
	first[0], first[1], second[0], second[1] = list(second...), list(second...), list(first...), list(first...)
	for i, v := range []api.Value{list(one...), list(many...), list(last...), keyed[1], table("a", list(first...)), list(null, list(first...), list(second...))} {
		for _, w := range []api.Value{v, null, list(), table("a", null)} {
			if values.May(v) || values.Same(v, w) || values.Same(w, v) || values.Cmp(v, w) != 0 || values.Cmp(w, v) != 0 {
				t.Error(i)
			}
		}
		got, ok := values.Get(v, "a")
		if values.Size(v) != 0 || values.Deep(v) != 0 || values.Text(v) != "" || values.Key(v) != "" || ok || !reflect.DeepEqual(got, api.Value{}) {
			t.Error(i)
		}
	}
}

func TestOfMany(t *testing.T) {
	const many = 300000
	l, m := list(), table()
	for i := range many {
		l.List = append(l.List, num(strconv.Itoa(i)))
		m.Keys, m.List = append(m.Keys, strconv.Itoa(many-i)), append(m.List, null)
	}
	longer := list(append(slices.Clone(l.List), null)...)
	if values.Size(l) != many+1 || values.Size(m) != many+1 || values.Deep(list(l, m)) != 2 || values.Cmp(l, longer) != -1 || values.Cmp(longer, l) != 1 || !values.Same(m, m) || len(values.Text(m)) != len(textOf(m)) {
		t.Error("many")
	}
	if got, ok := values.Get(m, "300000"); !ok || !reflect.DeepEqual(got, null) {
		t.Error(got, ok)
	}
	m.Keys[many-1] = m.Keys[0]
	if values.May(m) {
		t.Error("the last key is the first one")
	}
}

// TestNothingIsChanged of what is handed in, the room behind it included.
func TestNothingIsChanged(t *testing.T) {
	for _, made := range []func() []api.Value{good, bad, func() []api.Value { return rising }} {
		l, same := made(), made()
		for i := range l {
			if l[i].List != nil {
				l[i].List = append(l[i].List, str("behind"))[:len(l[i].List)]
			}
			if l[i].Keys != nil {
				l[i].Keys = append(l[i].Keys, "behind")[:len(l[i].Keys)]
			}
		}
		for i, v := range l {
			w := l[len(l)-1-i]
			values.May(v)
			values.Same(v, w)
			values.Cmp(v, w)
			values.Size(v)
			values.Deep(v)
			values.Text(v)
			values.Key(v)
			values.Get(v, "a")
		}
		for i, v := range l {
			if !reflect.DeepEqual(v, same[i]) || v.List != nil && v.List[:len(v.List)+1][len(v.List)].Text != "behind" || v.Keys != nil && v.Keys[:len(v.Keys)+1][len(v.Keys)] != "behind" {
				t.Errorf("%v, not %v", v, same[i])
			}
		}
	}
}

// R4

// within tells if a text stands in another one's room.
func within(a, b string) bool {
	at, from := uintptr(unsafe.Pointer(unsafe.StringData(a))), uintptr(unsafe.Pointer(unsafe.StringData(b)))
	return from <= at && at < from+uintptr(len(b))
}

// apart tells if nothing of a value is another one's, which says the same, and has no room behind.
func apart(a, b api.Value) bool {
	ok := cap(a.List) == len(a.List) && cap(a.Keys) == len(a.Keys) && !within(a.Text, b.Text)
	for i := range a.List {
		ok = ok && &a.List[i] != &b.List[i] && apart(a.List[i], b.List[i])
	}
	for i := range a.Keys {
		ok = ok && &a.Keys[i] != &b.Keys[i] && !within(a.Keys[i], b.Keys[i])
	}
	return ok
}

func TestGotIsItsOwn(t *testing.T) {
	for _, v := range append(good(), random(rand.New(rand.NewSource(1)), 6)) {
		// Room behind, which the answer does not have.
		v.List = slices.Grow(v.List, 9)
		v.Keys = slices.Grow(v.Keys, 9)
		got, ok := values.Get(table("x", v), "x")
		if !ok || !reflect.DeepEqual(got, v) || !apart(got, v) {
			t.Errorf("%v: %v, %v", v, got, ok)
		}
	}
	shared := []api.Value{num("1"), list()}
	v := table("a", list(list(shared...), list(shared...), table("b", list(shared...))))
	got, _ := values.Get(v, "a")
	got.List[0].List[0] = null
	got.List[0].List[1].List = []api.Value{null}
	if !reflect.DeepEqual(got.List[1:], v.List[0].List[1:]) || shared[0].Text != "1" {
		t.Errorf("%v: lists of one answer share memory", got)
	}
}

// TestTextsAreTheirOwn: no text that is answered stands in one that was handed in.
func TestTextsAreTheirOwn(t *testing.T) {
	for _, kind := range []api.Kind{api.VkNum, api.VkStr, api.VkInt, api.VkFloat, api.VkDate} {
		v := of(kind, "some text, as it stands")
		if within(values.Text(v), v.Text) || within(values.Key(v), v.Text) {
			t.Error(kind)
		}
	}
}
