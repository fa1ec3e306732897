package quotes_test

import (
	"encoding/json"
	"regexp"
	"strconv"
	"strings"
	"testing"
	"unicode/utf16"
	"unicode/utf8"
	"unsafe"

	"inarch/api"
	"inarch/quotes"
)

// The grammar, as the chapter's words say it, beside the package's own way of going through a string: a whole one, and a beginning of one.
const unit = `(?:[^\x00-\x1F"\\]|\\["\\/bfnrt]|\\u[0-9a-fA-F]{4})`

var (
	units    = regexp.MustCompile(unit)
	whole    = regexp.MustCompile(`^"` + unit + `*"$`)
	begun    = regexp.MustCompile(`^(?:"` + unit + `*(?:"|\\(?:u[0-9a-fA-F]{0,3})?)?)?$`)
	numbered = regexp.MustCompile(`^\\u[0-9a-fA-F]{4}$`)
)

// syntaxAt is the first byte at which it is no string's beginning any more; -1: it is a string.
func syntaxAt(s string) int {
	if whole.MatchString(s) {
		return -1
	}
	for at := range len(s) {
		if !begun.MatchString(s[:at+1]) {
			return at
		}
	}
	return len(s)
}

// surrogate's number, of a unit that is a high or a low one; else 0.
func surrogate(u string) rune {
	if !numbered.MatchString(u) {
		return 0
	}
	n, _ := strconv.ParseUint(u[2:], 16, 16)
	if !utf16.IsSurrogate(rune(n)) {
		return 0
	}
	return rune(n)
}

// loneAt is the first unit's place that is a high or a low one and is not paired; -1: there is none. The units are all there, one behind the other.
func loneAt(s string) int {
	last, lastAt := rune(0), -1
	for _, at := range units.FindAllStringIndex(s, -1) {
		n := surrogate(s[at[0]:at[1]])
		switch {
		case last != 0 && utf16.DecodeRune(last, n) != utf8.RuneError:
			n = 0
		case last != 0:
			return lastAt
		case n >= 0xDC00:
			return at[0]
		}
		last, lastAt = n, at[0]
	}
	if last != 0 {
		return lastAt
	}
	return -1
}

// faultOf a text, by the grammar.
func faultOf(s string) api.Fault {
	syntax := syntaxAt(s)
	inner := s
	if syntax >= 0 {
		inner = s[:syntax]
	}
	if len(inner) > 0 {
		if lone := loneAt(inner[1:]); lone >= 0 {
			return api.Fault{Code: api.CoSurrogate, At: 1 + lone}
		}
	}
	if syntax >= 0 {
		return api.Fault{Code: api.CoSyntax, At: syntax}
	}
	return api.Fault{}
}

// everyText hands on all texts of up to so many of the parts.
func everyText(parts []string, most int, look func(s string)) {
	look("")
	if most == 0 {
		return
	}
	for _, part := range parts {
		everyText(parts, most-1, func(s string) {
			look(part + s)
		})
	}
}

// parts are whole units, and what is left of units that are cut, or spoilt.
var parts = []string{`"`, `\`, `\"`, `\n`, `u`, `004`, `1`, `\u0041`, `\u000A`, `\ud83d`, `\uDE00`, "\n", "é", "\xFF"}

// strs are strings, with their texts.
var strs = []struct{ s, text string }{
	{`""`, ""},
	{`"a"`, "a"},
	{`"a\u00e9\n"`, "aé\n"},
	{`"\ud83d\ude00"`, "😀"},
	{`" ~` + "\x7F" + `"`, " ~\x7F"},
	{`"\"\\\/\b\f\n\r\t"`, "\"\\/\x08\x0C\x0A\x0D\x09"},
	{`"/"`, "/"},
	{`"'{}[]:,"`, "'{}[]:,"},
	{`"\\n"`, `\n`},
	{`"\\\n"`, "\\\n"},
	{`"\\u0041"`, `\u0041`},
	{`"\\ud83d"`, `\ud83d`},
	{`"\\\ud83d\ude00\\ude00"`, `\😀\ude00`},
	{`"\u0041bc\u0000\u001f\u0022\u005c\u002F"`, "Abc\x00\x1F\"\\/"},
	{`"\u00411"`, "A1"},
	{`"\uabcd\uABCD\uAbCd\uFeDc"`, "\uABCD\uABCD\uABCD\uFEDC"},
	{`"\u007f\u0080\u07ff\u0800\ud7ff\ue000\uffff"`, "\u007F\u0080\u07FF\u0800\uD7FF\uE000\uFFFF"},
	{`"\ud800\udc00\uDBFF\uDFFF\ud800\udfff\udbff\udc00"`, "\U00010000\U0010FFFF\U000103FF\U0010FC00"},
	{`"\ud83d\ude00\ud83d\ude01x\ud83D\uDe02"`, "😀😁x😂"},
	{`"\ufffd\ufffe\ufeff"`, "\uFFFD\uFFFE\uFEFF"},
	{"\"é€😀\u2028\u0085\"", "é€😀\u2028\u0085"},
	{"\"\x80\xFF\xC3\xED\xA0\xBD\"", "\x80\xFF\xC3\xED\xA0\xBD"},
	{"\"\xC3\\n\xA9\"", "\xC3\n\xA9"},
}

// P3.1

func TestReadOfStrings(t *testing.T) {
	for _, c := range strs {
		if text, fault := quotes.Read(c.s); text != c.text || fault != (api.Fault{}) {
			t.Errorf("%q: %q, %v", c.s, text, fault)
		}
	}
}

func TestReadOfNoStrings(t *testing.T) {
	for _, c := range []struct {
		s  string
		at int
	}{
		{"", 0}, {"a", 0}, {`a"`, 0}, {` "a"`, 0}, {`'a'`, 0}, {"\n", 0}, {"\xFF", 0}, {"\uFEFF\"\"", 0}, {`\"`, 0}, {`\u0022a"`, 0},
		{`"`, 1}, {`"a`, 2}, {`"é`, 3}, {`"a\"`, 4}, {`"a\\`, 4}, {`"\u0041`, 7}, {`"\ud83d\ude00`, 13},
		{`""a`, 2}, {`"" `, 2}, {`"a""`, 3}, {`"a"b"`, 3}, {"\"a\"\n", 3}, {`"a"\`, 3}, {`"a"\ud83d`, 3}, {`"a"\ude00"`, 3}, {"\"a\"\x00", 3},
		{"\"\x00\"", 1}, {"\"\x1F\"", 1}, {"\"ab\nc\"", 3}, {"\"a\rb\"", 2}, {"\"a\tb\"", 2}, {"\"é\x01\"", 3}, {"\"\\n\x01\"", 3},
		{`"\`, 2}, {`"\x"`, 2}, {`"\x`, 2}, {`"\'"`, 2}, {`"\0"`, 2}, {`"\a"`, 2}, {`"\v"`, 2}, {`"\N"`, 2}, {`"\B"`, 2}, {`"\ n"`, 2}, {"\"\\\n\"", 2}, {`"\é"`, 2}, {"\"\\\xFF\"", 2}, {`"\U0041"`, 2}, {`"\e"`, 2},
		{`"ab\c"`, 4}, {`"\\\x"`, 4}, {`"é\n\x"`, 6},
		{`"\u`, 3}, {`"\u"`, 3}, {`"\u1`, 4}, {`"\u1"`, 4}, {`"\u12`, 5}, {`"\u12"`, 5}, {`"\u123`, 6}, {`"\u123"`, 6}, {`"\ud83`, 6}, {`"\ud83"`, 6},
		{`"\u004g"`, 6}, {`"\u00g1"`, 5}, {`"\u0g41"`, 4}, {`"\ug041"`, 3}, {`"\u004G"`, 6}, {`"\u{41}"`, 3}, {`"\u-041"`, 3}, {`"\u 041"`, 3}, {`"\u0x41"`, 4}, {`"\u00_4"`, 5}, {`"\u\u0041"`, 3},
		{`"\x\ud83d"`, 2}, {"\"\n\\ude00\"", 1}, {`"\u12\ud83d"`, 5},
	} {
		if text, fault := quotes.Read(c.s); text != "" || fault != (api.Fault{Code: api.CoSyntax, At: c.at}) {
			t.Errorf("%q: %q, %v", c.s, text, fault)
		}
	}
}

// TestReadOfLoneSurrogates: it counts, whatever is wrong behind it.
func TestReadOfLoneSurrogates(t *testing.T) {
	for _, c := range []struct {
		s  string
		at int
	}{
		{`"x\ud83d"`, 2}, {`"x\ude00"`, 2}, {`"\ud800"`, 1}, {`"\udbff"`, 1}, {`"\udc00"`, 1}, {`"\udfff"`, 1}, {`"\uD800"`, 1}, {`"\uDfFf"`, 1},
		{`"\ud83da\ude00"`, 1}, {`"\ud83d \ude00"`, 1}, {`"\ud83d\\ude00"`, 1}, {`"\ud83d\n\ude00"`, 1}, {`"\ud83du\ude00"`, 1}, {`"\ud83dude00"`, 1}, {`"\ud83d\u0041"`, 1},
		{`"\ud83d\udbff"`, 1}, {`"\ud83d\ue000"`, 1}, {`"\ude00\ud83d"`, 1}, {`"\ude00\ude00"`, 1},
		{`"\ud83d\ud83d\ude00"`, 1}, {`"\ud83d\ude00\ude00"`, 13}, {`"\ud83d\ude00\ud83d"`, 13}, {`"\ud83d\ude00\ud83d\ud83d\ude00"`, 13}, {`"é\n\ud83d"`, 5},
		{`"\ud83d`, 1}, {`"\ud83d\`, 1}, {`"\ud83d\u`, 1}, {`"\ud83d\ude0`, 1}, {`"\ud83d\ude0"`, 1}, {`"\ud83d\ude0g"`, 1}, {`"\ud83d\x"`, 1}, {`"\ud83d\Ude00"`, 1}, {"\"\\ud83d\n\"", 1}, {`"\ude00`, 1}, {`"\ude00\x"`, 1},
		{`"\ud83d""`, 1}, {`"\ud83d"a`, 1}, {`"\ude00"\ud83d`, 1}, {`"a\udc00"b`, 2}, {`"\ud83d"\ude00`, 1},
	} {
		if text, fault := quotes.Read(c.s); text != "" || fault != (api.Fault{Code: api.CoSurrogate, At: c.at}) {
			t.Errorf("%q: %q, %v", c.s, text, fault)
		}
	}
}

// TestReadOfEveryByte puts each byte ahead of, within, and behind a string, and into its escapes.
func TestReadOfEveryByte(t *testing.T) {
	for c := range 256 {
		b := string([]byte{byte(c)})
		for _, s := range []string{
			b, b + `"a"`, `"` + b, `"` + b + `"`, `"a` + b + `c"`, `"a"` + b, `"\` + b, `"\` + b + `"`, `"\\` + b + `"`,
			`"\u` + b + `041"`, `"\u0` + b + `41"`, `"\u00` + b + `1"`, `"\u004` + b + `"`, `"\u0041` + b + `"`,
			`"\ud83d` + b + `\ude00"`, `"\ud83d\` + b + `de00"`, `"\ud83d\u` + b + `e00"`, `"\ud83d\ud` + b + `00"`, `"\u` + b + `83d\ude00"`, `"\ud` + b + `3d\ude00"`,
		} {
			text, fault := quotes.Read(s)
			if fault != faultOf(s) || fault != (api.Fault{}) && text != "" {
				t.Errorf("%q: %q, %v", s, text, fault)
			}
		}
		text, fault := quotes.Read(`"a` + b + `c"`)
		if fault == (api.Fault{}) && text != "a"+b+"c" {
			t.Errorf("%q: %q", b, text)
		}
	}
}

// TestReadOfEveryText: of each text of a few parts, with and without its quotation marks, what is wrong, and what does it tell?
func TestReadOfEveryText(t *testing.T) {
	look := func(s string) {
		text, fault := quotes.Read(s)
		if fault != faultOf(s) {
			t.Fatalf("%q: %v, not %v", s, fault, faultOf(s))
		}
		want := ""
		if fault == (api.Fault{}) {
			want = told(t, s)
		}
		if text != want {
			t.Fatalf("%q: %q, not %q", s, text, want)
		}
	}
	everyText(parts, 3, func(s string) {
		look(s)
		look(`"` + s)
		look(`"` + s + `"`)
	})
}

// told is what the library makes of a string that has no fault, of pieces that are runes (it replaces other bytes).
func told(t *testing.T, s string) string {
	t.Helper()
	pieces := strings.Split(s[1:len(s)-1], "\xFF")
	for i, piece := range pieces {
		if err := json.Unmarshal([]byte(`"`+piece+`"`), &pieces[i]); err != nil {
			t.Fatalf("%q: %v", s, err)
		}
	}
	return strings.Join(pieces, "\xFF")
}

func TestReadOfLongStrings(t *testing.T) {
	const many = 1000000
	for _, c := range []struct{ unit, text string }{{"a", "a"}, {"€", "€"}, {`\n`, "\n"}, {`\u00e9`, "é"}, {`\ud83d\ude00`, "😀"}, {`\"`, `"`}} {
		s, text := `"`+strings.Repeat(c.unit, many)+`"`, strings.Repeat(c.text, many)
		if got, fault := quotes.Read(s); got != text || fault != (api.Fault{}) {
			t.Errorf("%s, often: %d bytes, %v", c.unit, len(got), fault)
		}
		for _, spoilt := range []struct {
			behind string
			fault  api.Fault
		}{
			{"", api.Fault{Code: api.CoSyntax, At: len(s) - 1}},
			{"\n", api.Fault{Code: api.CoSyntax, At: len(s) - 1}},
			{`""`, api.Fault{Code: api.CoSyntax, At: len(s)}},
			{`\x"`, api.Fault{Code: api.CoSyntax, At: len(s)}},
			{`\ude00"`, api.Fault{Code: api.CoSurrogate, At: len(s) - 1}},
		} {
			if got, fault := quotes.Read(s[:len(s)-1] + spoilt.behind); got != "" || fault != spoilt.fault {
				t.Errorf("%s, often, then %q: %d bytes, %v", c.unit, spoilt.behind, len(got), fault)
			}
		}
	}
}

// P3.2

func TestWrite(t *testing.T) {
	for _, c := range []struct{ text, want string }{
		{"", `""`},
		{"a", `"a"`},
		{"\x01", `"\u0001"`},
		{"\"\\/", `"\"\\/"`},
		{"\b\f\n\r\t", `"\b\f\n\r\t"`},
		{"\x00\x07\x0B\x0E\x0F\x10\x1A\x1B\x1F ", `"\u0000\u0007\u000b\u000e\u000f\u0010\u001a\u001b\u001f "`},
		{"\x7F\u0080\u2028é€😀<>&'", "\"\x7F\u0080\u2028é€😀<>&'\""},
		{`\u0041`, `"\\u0041"`},
		{`\ud83d`, `"\\ud83d"`},
		{"\xFF\x80\xC3\xED\xA0\xBD", "\"\xFF\x80\xC3\xED\xA0\xBD\""},
		{`""`, `"\"\""`},
		{"a\nb", `"a\nb"`},
		{"\x001", `"\u00001"`},
	} {
		if got := quotes.Write(c.text); got != c.want {
			t.Errorf("%q: %s", c.text, got)
		}
	}
}

// TestWriteOfEveryByte: alone, and among others, a byte has one unit.
func TestWriteOfEveryByte(t *testing.T) {
	short := map[byte]string{8: `\b`, 9: `\t`, 10: `\n`, 12: `\f`, 13: `\r`, '"': `\"`, '\\': `\\`}
	of := func(c byte) string {
		if u, ok := short[c]; ok {
			return u
		}
		if c < 32 {
			return `\u` + strings.Repeat("0", 4-len(strconv.FormatInt(int64(c), 16))) + strconv.FormatInt(int64(c), 16)
		}
		return string([]byte{c})
	}
	for c := range 256 {
		for d := range 256 {
			text := string([]byte{byte(c), byte(d)})
			if got := quotes.Write(text); got != `"`+of(byte(c))+of(byte(d))+`"` {
				t.Fatalf("%q: %q", text, got)
			}
		}
		if got := quotes.Write(string([]byte{byte(c)})); got != `"`+of(byte(c))+`"` {
			t.Errorf("%d: %q", c, got)
		}
	}
}

// P3.3

func again(t *testing.T, text string) {
	t.Helper()
	s := quotes.Write(text)
	if got, fault := quotes.Read(s); got != text || fault != (api.Fault{}) {
		t.Fatalf("%q: %q, then %q, %v", text, s, got, fault)
	}
}

func TestWrittenIsRead(t *testing.T) {
	for _, c := range strs {
		again(t, c.text)
		again(t, c.s)
	}
	for c := range 256 {
		for d := range 256 {
			again(t, string([]byte{byte(c), byte(d)}))
		}
	}
	everyText(parts, 3, func(s string) { again(t, s) })
	again(t, strings.Repeat("\x00\"😀\xFF", 250000))
}

// TestNothingShorterIsRead: whatever string has a text, the written one is as short.
func TestNothingShorterIsRead(t *testing.T) {
	look := func(s string) {
		text, fault := quotes.Read(s)
		if fault != (api.Fault{}) {
			return
		}
		if w := quotes.Write(text); len(w) > len(s) {
			t.Fatalf("%q: %q is longer", s, w)
		}
	}
	for _, c := range strs {
		look(c.s)
	}
	for n := range 65536 {
		look(`"` + escape(rune(n)) + `"`)
	}
	everyText([]string{`"`, `\`, `/`, `\/`, `\b`, `\f`, `\n`, `\r`, `\t`, `\u0000`, `\u001F`, `\u0008`, `\u000a`, `a`}, 3, func(s string) {
		look(`"` + s + `"`)
	})
}

// escape of a number.
func escape(n rune) string {
	digits := strconv.FormatInt(int64(n), 16)
	return `\u` + strings.Repeat("0", 4-len(digits)) + digits
}

// TestEscapesOfEveryRune: one of each rune, or two, of digits of either case; and what is no rune has none.
func TestEscapesOfEveryRune(t *testing.T) {
	for r := rune(0); r <= utf8.MaxRune; r++ {
		if utf16.IsSurrogate(r) {
			if _, fault := quotes.Read(`"` + escape(r) + `"`); fault != (api.Fault{Code: api.CoSurrogate, At: 1}) {
				t.Fatalf("%d: %v", r, fault)
			}
			continue
		}
		s := ""
		if r < 65536 {
			s = escape(r)
		} else {
			high, low := utf16.EncodeRune(r)
			s = escape(high) + escape(low)
		}
		for _, s := range []string{s, strings.ReplaceAll(strings.ToUpper(s), "U", "u")} {
			if text, fault := quotes.Read(`"` + s + `"`); text != string(r) || fault != (api.Fault{}) {
				t.Fatalf("%d: %s: %q, %v", r, s, text, fault)
			}
		}
	}
}

func TestEscapesAlone(t *testing.T) {
	var s, text strings.Builder
	for _, r := range "a\x00é€😀\uD7FF\uE000\U0010FFFF\U00010000\"\\/" {
		for _, n := range utf16.Encode([]rune{r}) {
			s.WriteString(escape(rune(n)))
		}
		text.WriteRune(r)
		if got, fault := quotes.Read(`"` + s.String() + `"`); got != text.String() || fault != (api.Fault{}) {
			t.Errorf("%s: %q, %v", s.String(), got, fault)
		}
	}
}

// TestCutStrings: they are wrong at their end, or, where the cut leaves half of a pair, at that.
func TestCutStrings(t *testing.T) {
	cut := func(s string) {
		for end := range len(s) {
			text, fault := quotes.Read(s[:end])
			ends := fault == api.Fault{Code: api.CoSyntax, At: end}
			half := fault.Code == api.CoSurrogate && fault.At < end && fault == faultOf(s[:end])
			if text != "" || !ends && !half {
				t.Fatalf("%q: %q, %v", s[:end], text, fault)
			}
		}
	}
	for _, c := range strs {
		cut(c.s)
		cut(quotes.Write(c.text))
	}
	everyText(parts, 3, func(s string) { cut(quotes.Write(s)) })
}

// R4

// TestAnswersAreTheirOwn: no answer stands in the room of what was handed in.
func TestAnswersAreTheirOwn(t *testing.T) {
	within := func(a, b string) bool {
		at, from := uintptr(unsafe.Pointer(unsafe.StringData(a))), uintptr(unsafe.Pointer(unsafe.StringData(b)))
		return from <= at && at < from+uintptr(len(b))
	}
	s := `"some text, as it stands"`
	text, _ := quotes.Read(s)
	if text != s[1:len(s)-1] || within(text, s) {
		t.Errorf("%q", text)
	}
	if written := quotes.Write(text); written != s || within(written, text) {
		t.Errorf("%q", written)
	}
}
