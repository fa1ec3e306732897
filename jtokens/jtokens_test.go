package jtokens_test

import (
	"bytes"
	"encoding/json"
	"math"
	"regexp"
	"slices"
	"strings"
	"testing"
	"unsafe"

	"inarch/api"
	"inarch/jtokens"
)

// The grammar, as the chapter's words say it, beside the package's own way of going through a text: whole tokens, of a group each, in the order of their kinds; and how far a string may be begun.
const unit = `(?:[^\x00-\x1F"\\]|\\["\\/bfnrt]|\\u[0-9a-fA-F]{4})`

var (
	whole = longest(`^(?:([ \t\n\r]+)|([{}\[\],:])|([a-z]+)|(-?(?:0|[1-9][0-9]*)(?:\.[0-9]+)?(?:[eE][+-]?[0-9]+)?)|("` + unit + `*"))`)
	begun = longest(`^"` + unit + `*(?:\\(?:u[0-9a-fA-F]{0,3})?)?`)
)

func longest(form string) *regexp.Regexp {
	r := regexp.MustCompile(form)
	r.Longest()
	return r
}

func fault(at int) api.Fault { return api.Fault{Code: api.CoSyntax, At: at} }

// wanted is what begins at a place of a text, by the grammar.
func wanted(s string, at int) (jtokens.Token, api.Fault) {
	if at < 0 {
		return jtokens.Token{}, fault(0)
	}
	if at >= len(s) {
		return jtokens.Token{}, fault(at)
	}
	rest := s[at:]
	m := whole.FindStringSubmatchIndex(rest)
	if m == nil {
		return jtokens.Token{}, fault(at + fits(rest))
	}
	for kind := range jtokens.JtStr + 1 {
		if m[2+2*kind] >= 0 {
			if kind == jtokens.JtWord && !slices.Contains([]string{"true", "false", "null"}, rest[:m[1]]) {
				break
			}
			return jtokens.Token{Kind: kind, From: at, To: at + m[1]}, api.Fault{}
		}
	}
	return jtokens.Token{}, fault(at)
}

// fits tells how many bytes do, of a text that begins with no whole token.
func fits(rest string) int {
	switch rest[0] {
	case '-':
		return 1
	case '"':
		return len(begun.FindString(rest))
	}
	return 0
}

// wantedAll is what a text is, by the grammar.
func wantedAll(s string) ([]jtokens.Token, api.Fault) {
	var l []jtokens.Token
	for at := 0; at < len(s); {
		x, f := wanted(s, at)
		if f != (api.Fault{}) {
			return l, f
		}
		l = append(l, x)
		at = x.To
	}
	return l, api.Fault{}
}

// look if all that is told of a text is as the grammar has it.
func look(t *testing.T, s string) {
	t.Helper()
	b := []byte(s)
	l, f := jtokens.Read(b)
	want, wantFault := wantedAll(s)
	if !slices.Equal(l, want) || f != wantFault {
		t.Fatalf("%q: %v, %v, not %v, %v", s, l, f, want, wantFault)
	}
	for at := -1; at <= len(s)+1; at++ {
		x, f := jtokens.Next(b, at)
		if want, wantFault := wanted(s, at); x != want || f != wantFault {
			t.Fatalf("%q at %d: %v, %v, not %v, %v", s, at, x, f, want, wantFault)
		}
	}
	follows(t, b, l, f)
}

// follows looks if tokens are as they have to be, whatever the grammar is. (P8.3)
func follows(t *testing.T, b []byte, l []jtokens.Token, f api.Fault) {
	t.Helper()
	at := 0
	for i, x := range l {
		if x.From != at || x.To <= x.From || x.To > len(b) {
			t.Fatalf("%.60q: token %d stands at %d to %d, behind one that ends at %d", b, i, x.From, x.To, at)
		}
		if i > 0 && l[i-1].Kind == x.Kind && (x.Kind == jtokens.JtSpace || x.Kind == jtokens.JtWord) {
			t.Fatalf("%.60q: tokens %d and %d are both of kind %d", b, i-1, i, x.Kind)
		}
		alone, fault := jtokens.Read(b[x.From:x.To])
		if !slices.Equal(alone, []jtokens.Token{{Kind: x.Kind, To: x.To - x.From}}) || fault != (api.Fault{}) {
			t.Fatalf("%.60q: token %d, alone: %v, %v", b, i, alone, fault)
		}
		at = x.To
	}
	if f == (api.Fault{}) && at != len(b) {
		t.Fatalf("%.60q: no fault, and tokens up to %d of %d", b, at, len(b))
	}
	if f != (api.Fault{}) && (f.Code != api.CoSyntax || f.At < at || f.At > len(b)) {
		t.Fatalf("%.60q: %v, with tokens up to %d", b, f, at)
	}
}

// some are texts of each token, and of documents.
var some = []string{
	"", " \t\n\r", "{}[],:", "true", "false", "null", "0", "-0", "-120", "0.50", "1e5", "-1.05E+09", "12.5e-0", `""`, `"a"`, `"é\n\u00e9\ud83d\\\"\/"`,
	`[1, "a"]`, " {\"a\": [1, 20e-1],\r\n\t\"b\\u0041\": {\"c\":null}} ", `[true,false,{"x":-0.5e+7}]`, `{"a":{"a":{"a":[[[]]]}}}`,
}

// P8.1

func TestKinds(t *testing.T) {
	kinds := []jtokens.Kind{jtokens.JtSpace, jtokens.JtMark, jtokens.JtWord, jtokens.JtNum, jtokens.JtStr}
	if !slices.Equal(kinds, []jtokens.Kind{0, 1, 2, 3, 4}) {
		t.Error(kinds)
	}
}

// TestNext: whatever stands ahead of a token, and what is behind it and does not belong to it.
func TestNext(t *testing.T) {
	for _, c := range []struct {
		kind  jtokens.Kind
		token string
		rests []string
	}{
		{jtokens.JtSpace, " ", []string{"", "1", "\x00", "\v", "\f", "\u00a0", "\u0085", "\u2028", "/", "\uFEFF"}},
		{jtokens.JtSpace, "\t", []string{"", "a"}},
		{jtokens.JtSpace, "\n", []string{"", "\x0b"}},
		{jtokens.JtSpace, "\r", []string{"", "["}},
		{jtokens.JtSpace, " \r\n\n\t ", []string{"", `"`, "true"}},
		{jtokens.JtMark, "{", []string{"", "{", " "}},
		{jtokens.JtMark, "}", []string{"", "}", "\xFF"}},
		{jtokens.JtMark, "[", []string{"", "]", "["}},
		{jtokens.JtMark, "]", []string{"", "]", ","}},
		{jtokens.JtMark, ",", []string{"", ",", "1"}},
		{jtokens.JtMark, ":", []string{"", ":", "="}},
		{jtokens.JtWord, "true", []string{"", " ", ",", "1", "T", "_", "-", `"`, "é", "\x00", "`", "{"}},
		{jtokens.JtWord, "false", []string{"", "]", "E", "0", "\xFF"}},
		{jtokens.JtWord, "null", []string{"", "}", "L", ".", "\\"}},
		{jtokens.JtNum, "0", []string{"", "0", "1", "9.5", "x", "-", ".", ".e5", ".-1", "e", "E", "e+", "e-", "e+-1", "ex", "_0", ",", "\xFF", "\u0660"}},
		{jtokens.JtNum, "-0", []string{"", "0", "1", ".", "e", "-"}},
		{jtokens.JtNum, "1", []string{"", ".", ".x", "..5", "e", "e+", "eE5", "+1", "-1", " 1", "/", ":", "\u0661"}},
		{jtokens.JtNum, "-9", []string{"", "-", ".e1", "f"}},
		{jtokens.JtNum, "1234567890", []string{"", ".", "e", "a"}},
		{jtokens.JtNum, "0.0", []string{"", ".", ".5", "e", "e-", "E+x", " "}},
		{jtokens.JtNum, "-10.050", []string{"", ".", "e+", "-"}},
		{jtokens.JtNum, "0e0", []string{"", ".", ".5", "e1", "E", "-", "x"}},
		{jtokens.JtNum, "1E00", []string{"", "."}},
		{jtokens.JtNum, "1e+05", []string{"", ".5", "+1"}},
		{jtokens.JtNum, "-1.5E-9", []string{"", "e", ".", "-9"}},
		{jtokens.JtNum, "1e99999999999999999999", []string{"", "e"}},
		{jtokens.JtStr, `""`, []string{"", `"`, "a", "\\", "\x00"}},
		{jtokens.JtStr, `"a"`, []string{"", `"`, ":", "\n"}},
		{jtokens.JtStr, `" !#[]{},:'/~"`, []string{"", `"`}},
		{jtokens.JtStr, `"\"\\\/\b\f\n\r\t"`, []string{"", `\"`}},
		{jtokens.JtStr, `"\\"`, []string{"", `"`, `\"`}},
		{jtokens.JtStr, `"\u0000\u09Af\uFFff\uaBcD"`, []string{"", "0"}},
		{jtokens.JtStr, `"\u00411\\u"`, []string{"", `"`}},
		{jtokens.JtStr, `"\ud83d"`, []string{"", `\ude00"`}},
		{jtokens.JtStr, "\"\x7F\u0080\u2028é€😀\"", []string{"", "é"}},
		{jtokens.JtStr, "\"\x80\xFF\xC3\"", []string{"", "\xA9"}},
	} {
		for _, rest := range c.rests {
			for _, ahead := range []string{"", "[1, ", "\x00", `"`} {
				at := len(ahead)
				x, f := jtokens.Next([]byte(ahead+c.token+rest), at)
				if x != (jtokens.Token{Kind: c.kind, From: at, To: at + len(c.token)}) || f != (api.Fault{}) {
					t.Errorf("%q, then %q, behind %q: %v, %v", c.token, rest, ahead, x, f)
				}
			}
		}
	}
}

// TestNextOfNoTokens: whatever stands ahead, no token, and the first byte that does not fit.
func TestNextOfNoTokens(t *testing.T) {
	for _, c := range []struct {
		s  string
		at int
	}{
		{"", 0}, {"\x00", 0}, {"\x0b", 0}, {"\x0c", 0}, {"\x1f", 0}, {"!", 0}, {"'a'", 0}, {"(", 0}, {"+1", 0}, {".5", 0}, {"/*", 0}, {"//", 0}, {";", 0}, {"=", 0}, {"@", 0}, {"\\", 0}, {"_", 0}, {"`", 0}, {"|", 0}, {"~", 0}, {"\x7f", 0},
		{"A", 0}, {"True", 0}, {"NULL", 0}, {"E5", 0}, {"NaN", 0}, {"Infinity", 0}, {"\x80", 0}, {"\xff", 0}, {"é", 0}, {"\u00a0", 0}, {"\uFEFF1", 0}, {"\u2028", 0}, {"\uff11", 0},
		{"a", 0}, {"z", 0}, {"tru", 0}, {"t", 0}, {"truee", 0}, {"truefalse", 0}, {"nulltrue", 0}, {"falsenull", 0}, {"xtrue", 0}, {"rue", 0}, {"nul ", 0}, {"nul1", 0}, {"tru e", 0}, {"trUe", 0}, {"undefined", 0}, {"nan", 0}, {"inf", 0}, {"e5", 0}, {"u0041", 0},
		{"-", 1}, {"--1", 1}, {"-+1", 1}, {"-a", 1}, {"- 1", 1}, {"-.5", 1}, {"-e5", 1}, {`-"`, 1}, {"-\x00", 1}, {"-\xff", 1}, {"-/", 1}, {"-:", 1}, {"-true", 1}, {"-\uff11", 1},
		{`"`, 1}, {`"a`, 2}, {`"é`, 3}, {`"a\"`, 4}, {`"a\\`, 4}, {`"\u0041`, 7}, {`"a'`, 3},
		{"\"\x00\"", 1}, {"\"\x1f\"", 1}, {"\"ab\nc\"", 3}, {"\"a\rb\"", 2}, {"\"a\tb\"", 2}, {"\"é\x01\"", 3}, {"\"\\n\x01\"", 3}, {"\"\\u0041\n\"", 7},
		{`"\`, 2}, {`"\x"`, 2}, {`"\x`, 2}, {`"\'"`, 2}, {`"\0"`, 2}, {`"\a"`, 2}, {`"\v"`, 2}, {`"\e"`, 2}, {`"\N"`, 2}, {`"\B"`, 2}, {`"\ n"`, 2}, {"\"\\\n\"", 2}, {"\"\\\x00\"", 2}, {`"\é"`, 2}, {"\"\\\xFF\"", 2}, {`"\U0041"`, 2}, {`"ab\c"`, 4}, {`"\\\x"`, 4}, {`"é\n\x"`, 6},
		{`"\u`, 3}, {`"\u"`, 3}, {`"\u1`, 4}, {`"\u1"`, 4}, {`"\u12`, 5}, {`"\u12"`, 5}, {`"\u123`, 6}, {`"\u123"`, 6},
		{`"\u004g"`, 6}, {`"\u00g1"`, 5}, {`"\u0g41"`, 4}, {`"\ug041"`, 3}, {`"\u004G"`, 6}, {`"\u{41}"`, 3}, {`"\u-041"`, 3}, {`"\u 041"`, 3}, {`"\u0x41"`, 4}, {`"\u00_4"`, 5}, {`"\u\u0041"`, 3}, {"\"\\u00\n1\"", 5}, {"\"\\u00\xFF1\"", 5}, {`"\u00/1"`, 5}, {`"\u00:1"`, 5}, {"\"\\u00`1\"", 5}, {`"\u00@1"`, 5},
	} {
		for _, ahead := range []string{"", "[1, ", "\x00", `"`} {
			at := len(ahead)
			x, f := jtokens.Next([]byte(ahead+c.s), at)
			if x != (jtokens.Token{}) || f != fault(at+c.at) {
				t.Errorf("%q, behind %q: %v, %v", c.s, ahead, x, f)
			}
		}
	}
}

func TestNextOfOtherPlaces(t *testing.T) {
	for _, b := range [][]byte{nil, {}, []byte("1"), []byte("[true]"), []byte("\xff")} {
		for _, c := range []struct{ at, want int }{
			{-1, 0}, {-2, 0}, {-100, 0}, {math.MinInt, 0},
			{len(b), len(b)}, {len(b) + 1, len(b) + 1}, {len(b) + 99, len(b) + 99}, {math.MaxInt - 1, math.MaxInt - 1}, {math.MaxInt, math.MaxInt},
		} {
			if x, f := jtokens.Next(b, c.at); x != (jtokens.Token{}) || f != fault(c.want) {
				t.Errorf("%q at %d: %v, %v", b, c.at, x, f)
			}
		}
	}
}

// TestNextWithin: a token begins at a place whatever stands ahead, also within another one.
func TestNextWithin(t *testing.T) {
	for _, c := range []struct {
		s    string
		at   int
		want jtokens.Token
	}{
		{" \n\t1", 2, jtokens.Token{Kind: jtokens.JtSpace, From: 2, To: 3}},
		{"-12.5e7", 1, jtokens.Token{Kind: jtokens.JtNum, From: 1, To: 7}},
		{"-12.5e7", 4, jtokens.Token{Kind: jtokens.JtNum, From: 4, To: 7}},
		{"105", 1, jtokens.Token{Kind: jtokens.JtNum, From: 1, To: 2}},
		{"1e-7", 2, jtokens.Token{Kind: jtokens.JtNum, From: 2, To: 4}},
		{`"a, b"`, 2, jtokens.Token{Kind: jtokens.JtMark, From: 2, To: 3}},
		{`"a null"`, 3, jtokens.Token{Kind: jtokens.JtWord, From: 3, To: 7}},
		{`"a\"b"`, 3, jtokens.Token{Kind: jtokens.JtStr, From: 3, To: 6}},
	} {
		if x, f := jtokens.Next([]byte(c.s), c.at); x != c.want || f != (api.Fault{}) {
			t.Errorf("%q at %d: %v, %v", c.s, c.at, x, f)
		}
	}
	for _, at := range []int{1, 2, 3} {
		if x, f := jtokens.Next([]byte("true"), at); x != (jtokens.Token{}) || f != fault(at) {
			t.Errorf("true at %d: %v, %v", at, x, f)
		}
	}
}

// P8.2

func TestRead(t *testing.T) {
	for _, c := range []struct {
		s     string
		kinds string // their numbers
		ends  []int
		f     api.Fault
	}{
		{"", "", nil, api.Fault{}},
		{`[1, "a"]`, "131041", []int{1, 2, 3, 4, 7, 8}, api.Fault{}},
		{"-", "", nil, fault(1)},
		{"01", "33", []int{1, 2}, api.Fault{}},
		{`"\x"`, "", nil, fault(2)},
		{"1.e", "3", []int{1}, fault(1)},
		{"{}[],:", "111111", []int{1, 2, 3, 4, 5, 6}, api.Fault{}},
		{"\t true\r\nfalse null", "020202", []int{2, 6, 8, 13, 14, 18}, api.Fault{}},
		{"-0-1.5e7-2", "333", []int{2, 8, 10}, api.Fault{}},
		{`"a""b"1true"c"null`, "443242", []int{3, 6, 7, 11, 14, 18}, api.Fault{}},
		{`1"e5"`, "34", []int{1, 5}, api.Fault{}},
		{"1true2", "323", []int{1, 5, 6}, api.Fault{}},
		{"[1, truefalse]", "1310", []int{1, 2, 3, 4}, fault(4)},
		{"[1, tru, \"\x01", "1310", []int{1, 2, 3, 4}, fault(4)},
		{"1e5e5", "3", []int{3}, fault(3)},
		{"1.5E+", "3", []int{3}, fault(3)},
		{"[1,-]", "131", []int{1, 2, 3}, fault(4)},
		{`{"a":"b`, "141", []int{1, 4, 5}, fault(7)},
		{"{\"a\"\x00", "14", []int{1, 4}, fault(4)},
		{"1 \uFEFF", "30", []int{1, 2}, fault(2)},
		{"\uFEFF1", "", nil, fault(0)},
		{"}:,],[", "111111", []int{1, 2, 3, 4, 5, 6}, api.Fault{}},
	} {
		l, f := jtokens.Read([]byte(c.s))
		var want []jtokens.Token
		at := 0
		for i, end := range c.ends {
			want = append(want, jtokens.Token{Kind: jtokens.Kind(c.kinds[i] - '0'), From: at, To: end})
			at = end
		}
		if !slices.Equal(l, want) || f != c.f {
			t.Errorf("%q: %v, %v", c.s, l, f)
		}
		look(t, c.s)
	}
}

// everyText hands on all texts of up to so many of the parts.
func everyText(parts []string, most int, look func(s string)) {
	look("")
	if most == 0 {
		return
	}
	for _, part := range parts {
		everyText(parts, most-1, func(s string) { look(part + s) })
	}
}

// TestReadOfEveryText: of texts of a few parts, whole tokens and what is left of ones that are cut.
func TestReadOfEveryText(t *testing.T) {
	everyText([]string{" ", "\n", "[", ":", "true", "false", "null", "tru", "e", "-", "0", "12", ".", "5", "E", "+", `"`, `\`, `\"`, "u", "00e", "9", "\x1F", "é", "\xFF", "#"}, 3, func(s string) {
		look(t, s)
		look(t, `"`+s)
		look(t, `"`+s+`"`)
	})
}

func TestReadOfEveryNumber(t *testing.T) {
	everyText([]string{"-", "+", "0", "1", "9", ".", "e", "E"}, 5, func(s string) { look(t, s) })
}

func TestReadOfEveryWord(t *testing.T) {
	for _, word := range []string{"true", "false", "null"} {
		for at := range len(word) + 1 {
			for c := range 256 {
				b := string([]byte{byte(c)})
				look(t, word[:at]+b+word[at:])
				if at < len(word) {
					look(t, word[:at]+b+word[at+1:])
				}
			}
		}
	}
}

// TestReadOfEveryByte sets each byte at each place, ahead of what stands there, and in its stead; and ends, and goes on, at each one.
func TestReadOfEveryByte(t *testing.T) {
	for _, s := range some {
		for at := range len(s) + 1 {
			look(t, s[:at])
			look(t, s[at:])
			for c := range 256 {
				b := string([]byte{byte(c)})
				look(t, s[:at]+b)
				l, f := jtokens.Read([]byte(s[:at] + b + s[at:]))
				if want, wantFault := wantedAll(s[:at] + b + s[at:]); !slices.Equal(l, want) || f != wantFault {
					t.Fatalf("%q, and %q at %d: %v, %v, not %v, %v", s, b, at, l, f, want, wantFault)
				}
			}
		}
	}
}

// TestReadOfDocuments: what tokens there are without spaces is the library's shortest document.
func TestReadOfDocuments(t *testing.T) {
	met := 0
	for _, s := range append([]string{`{"<>&":"\u2028é😀"}`, "[[], {}, [{}], \"a b\", -0.0E-0 ]\n"}, some...) {
		var want bytes.Buffer
		if json.Compact(&want, []byte(s)) != nil {
			continue
		}
		met++
		l, f := jtokens.Read([]byte(s))
		var got []byte
		for _, x := range l {
			if x.Kind != jtokens.JtSpace {
				got = append(got, s[x.From:x.To]...)
			}
		}
		if string(got) != want.String() || f != (api.Fault{}) {
			t.Errorf("%q: %q, %v, not %q", s, got, f, want.String())
		}
	}
	if met < 12 {
		t.Errorf("only %d documents", met)
	}
}

func TestReadOfNothing(t *testing.T) {
	for _, b := range [][]byte{nil, {}} {
		if l, f := jtokens.Read(b); len(l) != 0 || f != (api.Fault{}) {
			t.Error(l, f)
		}
	}
}

// P8.3

// TestReadOfLongTexts: one token of many bytes, or many tokens; and what is wrong behind all of it.
func TestReadOfLongTexts(t *testing.T) {
	const many = 1000000
	often := func(s string) string { return strings.Repeat(s, many) }
	for _, c := range []struct {
		s      string
		tokens int
	}{
		{often(" \n"), 1}, {often("["), many}, {often("0"), many}, {often("7"), 1}, {often("-0"), many}, {"0." + often("0"), 1}, {"-1e+" + often("0"), 1},
		{often("1."), -1}, {often("true "), 2 * many}, {often("true"), -1}, {often("null1"), 2 * many}, {often(`""`), many}, {`"` + often("a") + `"`, 1}, {`"` + often(`\"`) + `"`, 1}, {`"` + often(`\uABcd`) + `"`, 1}, {`"` + often("😀") + `"`, 1},
	} {
		b := []byte(c.s)
		l, f := jtokens.Read(b)
		if c.tokens < 0 {
			if f == (api.Fault{}) || len(l) > 1 {
				t.Errorf("%.20q of %d bytes: %d tokens, %v", b, len(b), len(l), f)
			}
			continue
		}
		if len(l) != c.tokens || f != (api.Fault{}) {
			t.Errorf("%.20q of %d bytes: %d tokens, %v", b, len(b), len(l), f)
		}
		follows(t, b, l, f)
		if more, f := jtokens.Read(append(b, '#')); !slices.Equal(more, l) || f != fault(len(b)) {
			t.Errorf("%.20q of %d bytes, and one more: %d tokens, %v", b, len(b), len(more), f)
		}
	}
	for _, s := range []string{`"` + often("a"), `"` + often(`\\`), `"` + often(`\u0041`), `"` + often("é")} {
		for _, spoilt := range []struct {
			behind string
			at     int
		}{{"", 0}, {"\n\"", 0}, {`\`, 1}, {`\x"`, 1}, {`\u00"`, 4}} {
			l, f := jtokens.Read([]byte(s + spoilt.behind))
			if len(l) != 0 || f != fault(len(s)+spoilt.at) {
				t.Errorf("%.20q of %d bytes, then %q: %d tokens, %v", s, len(s), spoilt.behind, len(l), f)
			}
		}
	}
}

func TestTokensAreTheText(t *testing.T) {
	for _, s := range some {
		look(t, s)
		for _, other := range some {
			look(t, s+other)
			look(t, s+"#"+other)
		}
	}
}

// R1 and R4

func TestNothingIsChanged(t *testing.T) {
	for _, s := range append([]string{`[1, "a`, `"\u00`, "tru", "-"}, some...) {
		b := []byte(s)
		room := append([]byte(s), `"0e5 true`...)
		for _, x := range [][]byte{b, room[:len(s)]} {
			jtokens.Read(x)
			for at := -1; at <= len(x)+1; at++ {
				jtokens.Next(x, at)
			}
		}
		if string(b) != s || string(room) != s+`"0e5 true` {
			t.Errorf("%q: %q, %q", s, b, room)
		}
	}
}

// TestBytesBehindAreNotLookedAt: what stands in a slice's room, behind its last byte, makes no token longer, or whole.
func TestBytesBehindAreNotLookedAt(t *testing.T) {
	for _, s := range some {
		b := []byte(s)
		for end := range len(b) {
			l, f := jtokens.Read(b[:end])
			if want, wantFault := wantedAll(s[:end]); !slices.Equal(l, want) || f != wantFault {
				t.Errorf("%q, up to %d: %v, %v, not %v, %v", s, end, l, f, want, wantFault)
			}
		}
	}
}

func TestAnswersAreTheirOwn(t *testing.T) {
	for _, s := range []string{`[1, "a", true] #`, `[1, "a", true]`, `{"a": 1}`, "1"} {
		b := []byte(s)
		one, _ := jtokens.Read(b)
		other, _ := jtokens.Read(b)
		if cap(one) != len(one) || cap(other) != len(other) {
			t.Errorf("%q: room behind: %d of %d, %d of %d", s, len(one), cap(one), len(other), cap(other))
		}
		if unsafe.SliceData(one) == unsafe.SliceData(other) {
			t.Errorf("%q: two answers are one list", s)
		}
		clear(b)
		if want, _ := wantedAll(s); !slices.Equal(one, want) {
			t.Errorf("%q: an answer has changed with what was handed in: %v", s, one)
		}
	}
}
