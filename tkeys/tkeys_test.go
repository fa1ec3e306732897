package tkeys_test

import (
	"regexp"
	"slices"
	"strconv"
	"strings"
	"testing"
	"unsafe"

	"inarch/api"
	"inarch/tkeys"
	"inarch/tquotes"
)

// The grammar, as the chapter's words say it, beside the package's own way of going through a key. An escape's number is looked at by tquotes.
const (
	bareText    = `[a-zA-Z0-9_-]+`
	basicText   = `"(?:[^\x00-\x08\x0A-\x1F"\\\x7F]|\\(?:[btnfr"\\]|u[0-9a-fA-F]{4}|U[0-9a-fA-F]{8}))*"`
	literalText = `'[^\x00-\x08\x0A-\x1F'\x7F]*'`
	wordText    = `(?:` + bareText + `|` + basicText + `|` + literalText + `)`
	dotText     = `[\t ]*\.[\t ]*`
)

var (
	bareAlone = regexp.MustCompile(`^` + bareText + `$`)
	wordHere  = regexp.MustCompile(`^` + wordText)
	dotHere   = regexp.MustCompile(`^` + dotText)
	keyHere   = regexp.MustCompile(`^` + wordText + `(?:` + dotText + wordText + `)*`)
)

func init() { keyHere.Longest() }

// textOf is what a word tells.
func textOf(word string) (text string, fault api.Fault) {
	if bareAlone.MatchString(word) {
		return word, api.Fault{}
	}
	text, _, fault = tquotes.Read(word, 0)
	return text, fault
}

// wanted of a text, by the grammar, from its first byte on.
func wanted(s string) (k tkeys.Key, end int, fault api.Fault) {
	at := 0
	for {
		word := wordHere.FindString(s[at:])
		if word == "" {
			_, _, fault := tquotes.Read(s, at)
			return tkeys.Key{}, 0, fault
		}
		text, fault := textOf(word)
		if fault.Code != api.CoOK {
			return tkeys.Key{}, 0, api.Fault{Code: fault.Code, At: at + fault.At}
		}
		end = at + len(word)
		k.Words = append(k.Words, text)
		k.Spans = append(k.Spans, api.Span{From: at, To: end})
		dot := dotHere.FindString(s[end:])
		if dot == "" {
			return k, end, api.Fault{}
		}
		at = end + len(dot)
	}
}

// same tells if two keys are.
func same(a, b tkeys.Key) bool {
	return slices.Equal(a.Words, b.Words) && slices.Equal(a.Spans, b.Spans)
}

// empty tells if a key has nothing at all.
func empty(k tkeys.Key) bool { return k.Words == nil && k.Spans == nil }

// read the key at a place as wanted, or say so; moved: how far on it stands there.
func read(t *testing.T, s string, moved int, want tkeys.Key, wantEnd int, wantFault api.Fault) {
	t.Helper()
	k, end, fault := tkeys.Read(s, moved)
	if wantFault.Code != api.CoOK {
		wantFault.At += moved
		if !empty(k) || end != 0 || fault != wantFault {
			t.Fatalf("%q at %d: %v, %d, %v, not %v", s, moved, k, end, fault, wantFault)
		}
		return
	}
	want.Spans = slices.Clone(want.Spans)
	for i := range want.Spans {
		want.Spans[i].From += moved
		want.Spans[i].To += moved
	}
	if !same(k, want) || end != wantEnd+moved || fault != (api.Fault{}) {
		t.Fatalf("%q at %d: %v, %d, %v, not %v, %d", s, moved, k, end, fault, want, wantEnd+moved)
	}
}

// look if a text is read as the grammar has it, at its beginning and with bytes ahead of it.
func look(t *testing.T, s string) {
	t.Helper()
	k, end, fault := wanted(s)
	if long := keyHere.FindString(s); fault.Code == api.CoOK && len(long) != end {
		t.Fatalf("%q: the longest key has %d bytes, not %d", s, len(long), end)
	}
	read(t, s, 0, k, end, fault)
	for _, ahead := range []string{"a.", "\"' = .\n", "\xFF"} {
		read(t, ahead+s, len(ahead), k, end, fault)
	}
}

// everyText hands on all texts of up to so many of the parts.
func everyText(parts []string, most int, look func(s string)) {
	look("")
	if most == 0 {
		return
	}
	for _, part := range parts {
		everyText(parts, most-1, func(s string) {
			look(part + s)
		})
	}
}

// parts are what keys are made of, whole, cut, and spoilt.
var parts = []string{"a", "-_9", ".", " ", "\t", `"`, `'`, `\`, `"b.c"`, `'d '`, `\u00e9`, `\ud800`, "=", "]", "\n", "\r", "#", "é", "\xFF", "\x00"}

// keys are some that are read whole, with their words.
var keys = []struct {
	s     string
	words []string
}{
	{"a", []string{"a"}},
	{"1234", []string{"1234"}},
	{"-", []string{"-"}},
	{"_", []string{"_"}},
	{"-_-", []string{"-_-"}},
	{"az_AZ-09", []string{"az_AZ-09"}},
	{"true", []string{"true"}},
	{"a.b", []string{"a", "b"}},
	{"3.14", []string{"3", "14"}},
	{"a.a.a", []string{"a", "a", "a"}},
	{"a . b\t.\tc", []string{"a", "b", "c"}},
	{"a. b .c", []string{"a", "b", "c"}},
	{"a \t \t. \t b", []string{"a", "b"}},
	{`""`, []string{""}},
	{`''`, []string{""}},
	{`"".''.""`, []string{"", "", ""}},
	{`"a"`, []string{"a"}},
	{`'a'`, []string{"a"}},
	{`a . "b.c"`, []string{"a", "b.c"}},
	{`"a.b".'c d'`, []string{"a.b", "c d"}},
	{`"a" . 'b'	.	c`, []string{"a", "b", "c"}},
	{`"\u00e9\n".x`, []string{"é\n", "x"}},
	{`'\u00e9'.x`, []string{`\u00e9`, "x"}},
	{`"\"".'"'."'"`, []string{`"`, `"`, `'`}},
	{`"é".'😀'`, []string{"é", "😀"}},
	{"\"\xFF\".'\xC3'", []string{"\xFF", "\xC3"}},
	{`"#"."="."]"."[".'.'`, []string{"#", "=", "]", "[", "."}},
	{`"\U0001F600\b\t\f\r\\".-`, []string{"😀\b\t\f\r\\", "-"}},
	{"' \t'.\" \t\"", []string{" \t", " \t"}},
}

// behind a key may stand whatever is neither part of a word, nor a quotation mark, nor a dot.
var behind = []string{"", " ", "\t", "=", " = 1", "]", " ]", "\n", "\n.b", " \r\n.b", "\r.", "#.", " # .b", "\x00.", "é", "\xFF.", " b", `\.`, ",", "/", ":", "@", "[", "^", "`", "{", "+"}

// P10.1

func TestReadOfKeys(t *testing.T) {
	for _, c := range keys {
		for _, ahead := range []string{"", "a", "a.", "\"", "'", "[ ", "\xFF\n"} {
			for _, b := range behind {
				k, end, fault := tkeys.Read(ahead+c.s+b, len(ahead))
				if !slices.Equal(k.Words, c.words) || end != len(ahead+c.s) || fault != (api.Fault{}) {
					t.Errorf("%q, ahead %q, behind %q: %q, %d, %v", c.s, ahead, b, k.Words, end, fault)
				}
			}
		}
		look(t, c.s)
	}
}

func TestReadOfSpans(t *testing.T) {
	type spans [][2]int // from, to
	for _, c := range []struct {
		s    string
		at   int
		want spans
	}{
		{"a", 0, spans{{0, 1}}},
		{"abc = 1", 0, spans{{0, 3}}},
		{"abc = 1", 1, spans{{1, 3}}},
		{"x = abc.d", 4, spans{{4, 7}, {8, 9}}},
		{`a . "b.c" = 1`, 0, spans{{0, 1}, {4, 9}}},
		{`a . "b.c" = 1`, 5, spans{{5, 6}, {7, 8}}},
		{`""."é".''`, 0, spans{{0, 2}, {3, 7}, {8, 10}}},
		{"a  .\t\tb.c", 0, spans{{0, 1}, {6, 7}, {8, 9}}},
		{`"\u0041".'\u0041'`, 0, spans{{0, 8}, {9, 17}}},
		{`"\u0041".'\u0041'`, 3, spans{{3, 7}}},
	} {
		k, end, fault := tkeys.Read(c.s, c.at)
		var got spans
		for _, span := range k.Spans {
			got = append(got, [2]int{span.From, span.To})
		}
		if !slices.Equal(got, c.want) || end != c.want[len(c.want)-1][1] || fault != (api.Fault{}) {
			t.Errorf("%q at %d: %v, %d, %v", c.s, c.at, k.Spans, end, fault)
		}
	}
}

// TestReadOfEnds: where does the longest key end, if more of what keys are made of stands behind it?
func TestReadOfEnds(t *testing.T) {
	for _, c := range []struct {
		s     string
		words []string
		end   int
	}{
		{"a b", []string{"a"}, 1}, {"a b.c", []string{"a"}, 1}, {"a \t b", []string{"a"}, 1}, {"a.b c.d", []string{"a", "b"}, 3}, {"a\n.b", []string{"a"}, 1}, {"a \n.b", []string{"a"}, 1}, {"a\r.b", []string{"a"}, 1}, {"a\x0B.b", []string{"a"}, 1}, {"a\u00A0.b", []string{"a"}, 1},
		{`a"b"`, []string{"a"}, 1}, {`a"b`, []string{"a"}, 1}, {`a'`, []string{"a"}, 1}, {`"a"b`, []string{"a"}, 3}, {`"a""b"`, []string{"a"}, 3}, {`"a"'b'`, []string{"a"}, 3}, {`'a'b.c`, []string{"a"}, 3}, {`"a" "b"`, []string{"a"}, 3}, {`a.b"c".d`, []string{"a", "b"}, 3}, {`a."b"c.d`, []string{"a", "b"}, 5}, {"aé.b", []string{"a"}, 1}, {"a+b", []string{"a"}, 1}, {"a\xFF", []string{"a"}, 1},
		{`"""`, []string{""}, 2}, {`'''`, []string{""}, 2}, {`"""a"""`, []string{""}, 2}, {`'''a'''`, []string{""}, 2}, {`""""`, []string{""}, 2}, {`""""""`, []string{""}, 2}, {`''''''`, []string{""}, 2}, {`""".a`, []string{""}, 2}, {`""" .a`, []string{""}, 2}, {`''''.a`, []string{""}, 2}, {`""'`, []string{""}, 2}, {`''"`, []string{""}, 2}, {"\"\"\"\x00", []string{""}, 2},
		{`a."""b"""`, []string{"a", ""}, 4}, {`a . '''b'''.c`, []string{"a", ""}, 6}, {`""."""`, []string{"", ""}, 5}, {`''.'''.a`, []string{"", ""}, 5}, {`"".''".`, []string{"", ""}, 5}, {`"a""".b`, []string{"a"}, 3}, {`'a''''`, []string{"a"}, 3},
	} {
		if k, end, fault := tkeys.Read(c.s, 0); !slices.Equal(k.Words, c.words) || end != c.end || fault != (api.Fault{}) {
			t.Errorf("%q: %q, %d, %v", c.s, k.Words, end, fault)
		}
		look(t, c.s)
	}
}

func TestReadOfNoKeys(t *testing.T) {
	for _, c := range []struct {
		s  string
		at int
	}{
		{"", 0}, {" ", 0}, {" a", 0}, {"\ta", 0}, {"\na", 0}, {"= 1", 0}, {".", 0}, {".a", 0}, {" .a", 0}, {"#", 0}, {"]", 0}, {"[a]", 0}, {"+", 0}, {"é", 0}, {"\xFF", 0}, {"\x00", 0}, {"\uFEFFa", 0}, {`\u0041`, 0}, {"/", 0}, {":", 0}, {"@", 0}, {"[", 0}, {"^", 0}, {"`", 0}, {"{", 0}, {"*", 0}, {",", 0}, {"\x7F", 0},
		{"a.", 2}, {"a .", 3}, {"a. ", 3}, {"a. \t ", 5}, {"a..b", 2}, {"a. .b", 3}, {"a.b.", 4}, {"a.b.=", 4}, {"a.\nb", 2}, {"a. \nb", 3}, {"a.\r\nb", 2}, {"a.#", 2}, {"a.]", 2}, {"a. = 1", 3}, {"a.é", 2}, {"a.+b", 2}, {"a.\xFF", 2}, {"a.[", 2}, {`"a".`, 4}, {`''.`, 3}, {`"" . `, 5}, {`"a"..b`, 4},
		{`"`, 1}, {`"a`, 2}, {`"a.b`, 4}, {`'`, 1}, {`'a`, 2}, {"\"a\nb\"", 2}, {"'a\nb'", 2}, {"\"\r\"", 1}, {"'\x00'", 1}, {"\"\x7F\"", 1}, {`"\x"`, 2}, {`"\u12"`, 5}, {`"\ud800"`, 3}, {`"\ud800`, 3}, {`"\U00110000".a`, 3}, {`"a'`, 3}, {`'a"`, 3},
		{`a."`, 3}, {`a."b`, 4}, {`a.'b`, 4}, {`a . "b`, 6}, {"a.\"b\nc\"", 4}, {"a.'b\nc'", 4}, {`a."\x"`, 4}, {`a."b"."\ud800"`, 9}, {`"a"."b"."`, 9}, {"a.'\x01'", 3}, {`"".".'`, 6},
	} {
		k, end, fault := tkeys.Read(c.s, 0)
		if !empty(k) || end != 0 || fault != (api.Fault{Code: api.CoSyntax, At: c.at}) {
			t.Errorf("%q: %v, %d, %v", c.s, k, end, fault)
		}
		look(t, c.s)
	}
}

func TestReadOfPlaces(t *testing.T) {
	const most = int(^uint(0) >> 1)
	for _, c := range []struct {
		s       string
		at, bad int
	}{
		{"", 0, 0}, {"", 1, 0}, {"", -1, 0}, {"a", 1, 1}, {"a", 2, 0}, {"a", -1, 0}, {"a", most, 0}, {"a", -most - 1, 0}, {"a.b", 3, 3}, {"a.b", 4, 0}, {"a.b", 1, 1}, {`""`, 2, 2}, {`""`, 3, 0}, {`""`, -1, 0}, {`""`, 1, 2}, {"a b", 1, 1}, {`"a"`, 2, 3},
	} {
		k, end, fault := tkeys.Read(c.s, c.at)
		if !empty(k) || end != 0 || fault != (api.Fault{Code: api.CoSyntax, At: c.bad}) {
			t.Errorf("%q at %d: %v, %d, %v", c.s, c.at, k, end, fault)
		}
	}
}

// TestReadOfEveryByte: which bytes go on a word, which ones begin one, and which ones may stand at a dot?
func TestReadOfEveryByte(t *testing.T) {
	for n := range 256 {
		b := string([]byte{byte(n)})
		bare := bareAlone.MatchString(b)
		blank := n == 9 || n == 32
		_, end, _ := tkeys.Read("a"+b+"a", 0)
		if want := map[bool]int{false: 1, true: 3}[bare || b == "."]; end != want {
			t.Errorf("%q goes on to %d, not %d", b, end, want)
		}
		_, end, _ = tkeys.Read(b, 0)
		if want := map[bool]int{false: 0, true: 1}[bare]; end != want {
			t.Errorf("%q: %d, not %d", b, end, want)
		}
		_, end, _ = tkeys.Read("a"+b+".a", 0)
		if want := map[bool]int{false: 1, true: 4}[bare || blank]; end != want && b != "." {
			t.Errorf("%q, ahead of a dot, goes on to %d, not %d", b, end, want)
		}
		_, end, fault := tkeys.Read("a."+b+"a", 0)
		if want := map[bool]int{false: 0, true: 4}[bare || blank]; end != want {
			t.Errorf("%q, behind a dot, goes on to %d, not %d", b, end, want)
		}
		if !bare && !blank && b != `"` && b != `'` && fault != (api.Fault{Code: api.CoSyntax, At: 2}) {
			t.Errorf("%q, behind a dot: %v", b, fault)
		}
		for _, mark := range []string{`"`, `'`} {
			look(t, mark+b+mark)
			look(t, mark+`\`+b+mark)
			look(t, mark+b+mark+".a")
			look(t, b+mark+b+mark+b)
			look(t, mark+mark+b+mark)
		}
		look(t, b+b)
		look(t, "a"+b+"."+b+"a")
	}
}

// TestReadOfEveryText: whatever a few parts make, is it read as the grammar has it?
func TestReadOfEveryText(t *testing.T) {
	everyText(parts, 4, func(s string) { look(t, s) })
	everyText([]string{"a", ".", " ", `"`, `'`, `\`}, 7, func(s string) { look(t, s) })
}

// TestReadOfSpoiltKeys: each byte taken out, or another one in its stead, or ahead of it.
func TestReadOfSpoiltKeys(t *testing.T) {
	for _, c := range keys {
		for i := range len(c.s) {
			look(t, c.s[:i])
			look(t, c.s[i:])
			look(t, c.s[:i]+c.s[i+1:])
			for _, b := range []string{"a", ".", " ", "\t", `"`, `'`, `\`, "\n", "\r", "\x00", "é", "\xFF", "="} {
				look(t, c.s[:i]+b+c.s[i:])
				look(t, c.s[:i]+b+c.s[i+1:])
			}
		}
	}
}

func TestReadOfLongKeys(t *testing.T) {
	const many = 500000
	for _, c := range []struct {
		word, text, dot string
	}{
		{"a", "a", "."}, {"a-_9", "a-_9", " . "}, {`""`, "", "."}, {`''`, "", "\t."}, {`"\u00e9"`, "é", ". "}, {`'a.b'`, "a.b", " \t.\t "},
	} {
		s := c.word + strings.Repeat(c.dot+c.word, many-1)
		k, end, fault := tkeys.Read(s+" = 1", 0)
		if len(k.Words) != many || len(k.Spans) != many || end != len(s) || fault != (api.Fault{}) {
			t.Fatalf("%s: %d words, %d spans, %d, %v", c.word, len(k.Words), len(k.Spans), end, fault)
		}
		for i := range many {
			from := i * (len(c.word) + len(c.dot))
			if k.Words[i] != c.text || k.Spans[i] != (api.Span{From: from, To: from + len(c.word)}) {
				t.Fatalf("%s, word %d: %q, %v", c.word, i, k.Words[i], k.Spans[i])
			}
		}
		if k, end, fault := tkeys.Read(s+c.dot, 0); !empty(k) || end != 0 || fault != (api.Fault{Code: api.CoSyntax, At: len(s + c.dot)}) {
			t.Errorf("%s, cut: %d words, %d, %v", c.word, len(k.Words), end, fault)
		}
	}
	for _, c := range []struct{ ahead, unit, behind string }{{"", "a", ""}, {`"`, "a", `"`}, {`'`, " ", `'`}} {
		text := strings.Repeat(c.unit, many)
		s := c.ahead + text + c.behind
		if k, end, fault := tkeys.Read(s, 0); len(k.Words) != 1 || k.Words[0] != text || end != len(s) || fault != (api.Fault{}) {
			t.Errorf("%s, often: %d words, %d, %v", c.unit, len(k.Words), end, fault)
		}
	}
	blanks := strings.Repeat(" \t", many)
	if k, end, _ := tkeys.Read("a"+blanks+"."+blanks+"b", 0); !slices.Equal(k.Words, []string{"a", "b"}) || end != 4*many+3 {
		t.Errorf("%q, %d", k.Words, end)
	}
	if k, end, _ := tkeys.Read("a"+blanks+"b", 0); !slices.Equal(k.Words, []string{"a"}) || end != 1 {
		t.Errorf("%q, %d", k.Words, end)
	}
}

// TestReadOfManyKeys: one costs what it has itself, not what stands behind it.
func TestReadOfManyKeys(t *testing.T) {
	const many = 1000000
	s := strings.Repeat(`a."" `, many)
	for i := range many {
		if k, end, fault := tkeys.Read(s, 5*i); len(k.Words) != 2 || end != 5*i+4 || fault != (api.Fault{}) {
			t.Fatalf("%d: %q, %d, %v", i, k.Words, end, fault)
		}
	}
}

// P10.2

func TestBare(t *testing.T) {
	for _, c := range []struct {
		word string
		want bool
	}{
		{"a", true}, {"z", true}, {"A", true}, {"Z", true}, {"0", true}, {"9", true}, {"_", true}, {"-", true}, {"az_AZ-09", true}, {"--", true}, {"1e5", true}, {"true", true}, {strings.Repeat("x", 1000000), true},
		{"", false}, {" ", false}, {"a ", false}, {" a", false}, {"a b", false}, {"a.b", false}, {".", false}, {"a\n", false}, {"a\t", false}, {`"a"`, false}, {"'a'", false}, {"é", false}, {"aé", false}, {"š", false}, {"\xFF", false}, {"a\x00", false}, {"a\xC3", false}, {"[a]", false}, {"a=", false}, {"+1", false}, {"a/b", false}, {"a:", false}, {"@", false}, {"[", false}, {"`", false}, {"{", false}, {"ａ", false}, {"٣", false}, {strings.Repeat("x", 1000000) + ".", false},
	} {
		if got := tkeys.Bare(c.word); got != c.want {
			t.Errorf("%.20q: %v", c.word, got)
		}
	}
	for c := range 256 {
		for d := range 256 {
			word := string([]byte{byte(c), byte(d)})
			if got := tkeys.Bare(word); got != bareAlone.MatchString(word) {
				t.Errorf("%q: %v", word, got)
			}
			if got := tkeys.Bare(word[:1]); got != bareAlone.MatchString(word[:1]) {
				t.Errorf("%q: %v", word[:1], got)
			}
		}
	}
}

func TestWrite(t *testing.T) {
	for _, c := range []struct {
		words []string
		want  string
	}{
		{nil, ""},
		{[]string{}, ""},
		{[]string{""}, `""`},
		{[]string{"", ""}, `"".""`},
		{[]string{"a"}, "a"},
		{[]string{"a", "b", "c"}, "a.b.c"},
		{[]string{"a", "b.c", ""}, `a."b.c".""`},
		{[]string{"3", "14"}, "3.14"},
		{[]string{"-", "_", "az_AZ-09"}, "-._.az_AZ-09"},
		{[]string{"a b", "a"}, `"a b".a`},
		{[]string{"é", `x"y`}, `"é"."x\"y"`},
		{[]string{`'`, `\`, "\n", "\x00\x7F"}, `"'"."\\"."\n"."\u0000\u007F"`},
		{[]string{"\xFF", "a"}, "\"\xFF\".a"},
		{[]string{"#", "=", "]", "."}, `"#"."="."]"."."`},
		{[]string{`"a"`, "'a'"}, `"\"a\""."'a'"`},
	} {
		if got := tkeys.Write(c.words...); got != c.want {
			t.Errorf("%q: %s", c.words, got)
		}
	}
	if got := tkeys.Write(); got != "" {
		t.Errorf("of no words: %q", got)
	}
	if got := tkeys.Write("a", "b.c", ""); got != `a."b.c".""` {
		t.Errorf("of some words: %q", got)
	}
}

// TestWriteOfEveryByte: a word is bare, or as tquotes writes it.
func TestWriteOfEveryByte(t *testing.T) {
	for c := range 256 {
		for d := range 256 {
			word := string([]byte{byte(c), byte(d)})
			want := word
			if !bareAlone.MatchString(word) {
				want = tquotes.Write(word)
			}
			if got := tkeys.Write(word); got != want {
				t.Fatalf("%q: %q", word, got)
			}
			if got := tkeys.Write("a", word, ""); got != "a."+want+`.""` {
				t.Fatalf("%q, among others: %q", word, got)
			}
		}
	}
}

// P10.3

func TestBlanks(t *testing.T) {
	const most = int(^uint(0) >> 1)
	for _, c := range []struct {
		s        string
		at, want int
	}{
		{"", 0, 0}, {" ", 0, 1}, {"\t", 0, 1}, {"  \t a", 0, 4}, {"  \t a", 2, 4}, {"  \t a", 4, 4}, {"  \t a", 5, 5}, {"a  ", 0, 0}, {"a  ", 1, 3}, {"a  ", 2, 3}, {"a  ", 3, 3},
		{" \n ", 0, 1}, {" \n ", 1, 1}, {" \n ", 2, 3}, {" \r\n", 0, 1}, {"\r ", 0, 0}, {" \x0B ", 0, 1}, {" \x0C ", 0, 1}, {" \x00 ", 0, 1}, {" \u00A0 ", 0, 1}, {" \u2003 ", 0, 1}, {" # ", 0, 1},
		{"", 1, 1}, {"", -1, -1}, {" ", 2, 2}, {" ", -1, -1}, {"a", 5, 5}, {" ", most, most}, {" ", -most - 1, -most - 1},
	} {
		if got := tkeys.Blanks(c.s, c.at); got != c.want {
			t.Errorf("%q at %d: %d, not %d", c.s, c.at, got, c.want)
		}
	}
	for n := range 256 {
		got := tkeys.Blanks(string([]byte{' ', byte(n), '\t'}), 0)
		if want := map[bool]int{false: 1, true: 3}[n == 9 || n == 32]; got != want {
			t.Errorf("byte %d: %d, not %d", n, got, want)
		}
	}
	everyText([]string{" ", "\t", "\n", "a"}, 6, func(s string) {
		for at := range len(s) + 1 {
			if got, want := tkeys.Blanks(s, at), len(s)-len(strings.TrimLeft(s[at:], " \t")); got != want {
				t.Fatalf("%q at %d: %d, not %d", s, at, got, want)
			}
		}
	})
	if got := tkeys.Blanks(strings.Repeat("\t ", 1000000)+"a", 1); got != 2000000 {
		t.Errorf("of many: %d", got)
	}
}

// P10.4

// again reads what is written, with bytes behind it that are none of its own.
func again(t *testing.T, words ...string) {
	t.Helper()
	s := tkeys.Write(words...)
	for _, b := range behind {
		k, end, fault := tkeys.Read(s+b, 0)
		if !slices.Equal(k.Words, words) || end != len(s) || fault != (api.Fault{}) {
			t.Fatalf("%q: %q, behind it %q: %q, %d, %v", words, s, b, k.Words, end, fault)
		}
	}
}

func TestWrittenIsRead(t *testing.T) {
	for _, c := range keys {
		again(t, c.words...)
		again(t, c.s)
		again(t, c.s, c.words[0], c.s)
	}
	for c := range 256 {
		for d := range 256 {
			again(t, string([]byte{byte(c), byte(d)}))
		}
	}
	everyText(parts, 3, func(s string) {
		again(t, s)
		again(t, "", s, "a")
	})
	again(t, strings.Repeat("\x00\"😀\xFF\n", 100000), strings.Repeat("a", 100000), "")
}

// quotings of a word: all that tell it.
func quotings(word string) []string {
	var escaped strings.Builder
	for _, r := range word {
		s := strconv.FormatInt(int64(r), 16)
		escaped.WriteString(`\U` + strings.Repeat("0", 8-len(s)) + s)
	}
	l := []string{tquotes.Write(word), `"` + escaped.String() + `"`}
	if bareAlone.MatchString(word) {
		l = append(l, word)
	}
	if !strings.ContainsAny(word, "'\n\x00") {
		l = append(l, "'"+word+"'")
	}
	return l
}

// TestWordsTellTheSame: however they are quoted, and whatever blanks stand at the dots.
func TestWordsTellTheSame(t *testing.T) {
	words := []string{"", "a", "-_9", "a.b", "a b", "é", "'", `"`, `\`, "\n", "\x00"}
	for _, first := range words {
		for _, second := range words {
			for _, a := range quotings(first) {
				for _, b := range quotings(second) {
					for _, dot := range []string{".", " .", ". ", "\t.\t", " \t . \t "} {
						s := a + dot + b + dot + a
						k, end, fault := tkeys.Read(s+" = 1", 0)
						if !slices.Equal(k.Words, []string{first, second, first}) || end != len(s) || fault != (api.Fault{}) {
							t.Fatalf("%q: %q, %d, %v", s, k.Words, end, fault)
						}
					}
				}
			}
		}
	}
}

// TestSpansAreWords: each word's span, as a key by itself, is that word.
func TestSpansAreWords(t *testing.T) {
	for _, c := range keys {
		k, _, _ := tkeys.Read(c.s, 0)
		for i, span := range k.Spans {
			alone := c.s[span.From:span.To]
			if got, end, fault := tkeys.Read(alone, 0); !slices.Equal(got.Words, k.Words[i:i+1]) || end != len(alone) || fault != (api.Fault{}) {
				t.Errorf("%q, alone: %q, %d, %v", alone, got.Words, end, fault)
			}
		}
	}
}

// R1

// TestWordsAreLeft: what is handed in stays as it is, and what stands behind it is not looked at.
func TestWordsAreLeft(t *testing.T) {
	words := []string{"a", "b.c", "", "d"}
	for n := range words {
		got := tkeys.Write(words[:n]...)
		if want := tkeys.Write(slices.Clone(words[:n])...); got != want {
			t.Errorf("of %d words: %s, not %s", n, got, want)
		}
	}
	if !slices.Equal(words, []string{"a", "b.c", "", "d"}) {
		t.Errorf("%q", words)
	}
}

// R4

// TestAnswersAreTheirOwn: no answer stands in the room of what was handed in, or of another answer, or has room behind.
func TestAnswersAreTheirOwn(t *testing.T) {
	within := func(a, b string) bool {
		at, from := uintptr(unsafe.Pointer(unsafe.StringData(a))), uintptr(unsafe.Pointer(unsafe.StringData(b)))
		return from <= at && at < from+uintptr(len(b))
	}
	for _, word := range []string{"some-words", `"some words"`, "'some words'"} {
		s := strings.Repeat(word+" . ", 2) + word
		k, _, _ := tkeys.Read(s, 0)
		for _, w := range k.Words {
			if within(w, s) {
				t.Errorf("%q", w)
			}
		}
		if len(k.Words) != 3 || cap(k.Words) != 3 || len(k.Spans) != 3 || cap(k.Spans) != 3 {
			t.Errorf("%q: room for %d words, for %d spans", s, cap(k.Words), cap(k.Spans))
		}
		other, _, _ := tkeys.Read(s, 0)
		k.Words[0], k.Spans[0] = "", api.Span{}
		if other.Words[0] == "" || other.Spans[0] == (api.Span{}) {
			t.Errorf("%q: %v", s, other)
		}
	}
	for _, word := range []string{"some-words", "some words"} {
		if s := tkeys.Write(word); within(s, word) {
			t.Errorf("%q", s)
		}
	}
	for n := 1; n < 40; n++ {
		k, _, _ := tkeys.Read("a"+strings.Repeat(".a", n-1), 0)
		if len(k.Words) != n || cap(k.Words) != n || len(k.Spans) != n || cap(k.Spans) != n {
			t.Errorf("%d words, with room for %d, %d spans, with room for %d", len(k.Words), cap(k.Words), len(k.Spans), cap(k.Spans))
		}
	}
}
