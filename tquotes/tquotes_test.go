package tquotes_test

import (
	"fmt"
	"regexp"
	"strconv"
	"strings"
	"testing"
	"unicode/utf8"
	"unsafe"

	"inarch/api"
	"inarch/tquotes"
)

// The grammar, as the chapter's words say it, beside the package's own way of going through a string. An escape's number is looked at apart from it.
const (
	lineEnd = `\r?\n`
	escape  = `\\(?:[btnfr"\\]|u[0-9a-fA-F]{4}|U[0-9a-fA-F]{8})`
	fold    = `\\[ \t]*` + lineEnd + `(?:[ \t]|` + lineEnd + `)*`
	unit    = `(?:[^\x00-\x08\x0A-\x1F"\\\x7F]|` + escape + `)`
	own     = `[^\x00-\x08\x0A-\x1F'\x7F]`
	inLong  = `(?:"{0,2}(?:` + unit + `|` + lineEnd + `|` + fold + `))*`
	inThree = `(?:'{0,2}(?:` + own + `|` + lineEnd + `))*`
	cut     = `\\(?:u[0-9a-fA-F]{0,3}|U[0-9a-fA-F]{0,7})?`
)

// kind of a string: how it begins, what it is as a whole, and what may stand behind the beginning of one that is cut.
type kind struct {
	open        string
	whole, left *regexp.Regexp
}

// kinds, the long ones first: where one begins, no short one does.
var kinds = []kind{
	{`"""`, regexp.MustCompile(`^"""` + inLong + `"{3,5}`), regexp.MustCompile(`^"""` + inLong + `"{0,2}(?:` + cut + `|\\[ \t]*\r?|` + fold + `\r?|\r)?$`)},
	{`'''`, regexp.MustCompile(`^'''` + inThree + `'{3,5}`), regexp.MustCompile(`^'''` + inThree + `'{0,2}\r?$`)},
	{`"`, regexp.MustCompile(`^"` + unit + `*"`), regexp.MustCompile(`^"` + unit + `*(?:` + cut + `)?$`)},
	{`'`, regexp.MustCompile(`^'` + own + `*'`), regexp.MustCompile(`^'` + own + `*$`)},
}

// The tokens of what stands in a string, and those of them that tell something else than they are.
var (
	tokens = regexp.MustCompile(unit + `|"|` + lineEnd + `|` + fold)
	folds  = regexp.MustCompile(`^` + fold + `$`)
	number = regexp.MustCompile(`^\\[uU]([0-9a-fA-F]+)$`)
)

// letters of the escapes, with what they tell.
var letters = map[string]string{`\b`: "\x08", `\t`: "\x09", `\n`: "\x0A", `\f`: "\x0C", `\r`: "\x0D", `\"`: `"`, `\\`: `\`}

// wanted of a text, by the grammar, from its first byte on.
func wanted(s string) (text string, end int, fault api.Fault) {
	for _, k := range kinds {
		if !strings.HasPrefix(s, k.open) {
			continue
		}
		if w := k.whole.FindString(s); w != "" {
			text, wrong := k.told(w[len(k.open) : len(w)-len(k.open)])
			if wrong >= 0 {
				return "", 0, api.Fault{Code: api.CoSyntax, At: len(k.open) + wrong}
			}
			return text, len(w), api.Fault{}
		}
		at := len(k.open)
		for at < len(s) && k.left.MatchString(s[:at+1]) {
			at++
		}
		if _, wrong := k.told(s[len(k.open):at]); wrong >= 0 {
			at = len(k.open) + wrong
		}
		return "", 0, api.Fault{Code: api.CoSyntax, At: at}
	}
	return "", 0, api.Fault{Code: api.CoSyntax}
}

// told is what stands between a string's ends, read; wrong: the first digit's place of the first number that is no rune's, or -1.
func (k kind) told(s string) (text string, wrong int) {
	from := 0
	if len(k.open) == 3 {
		from = len(s) - len(strings.TrimPrefix(strings.TrimPrefix(s, "\r\n"), "\n"))
		if strings.HasPrefix(s, "\r\n") {
			from = 2
		}
	}
	if k.open[0] == '\'' {
		return s[from:], -1
	}
	for _, at := range tokens.FindAllStringIndex(s[from:], -1) {
		u := s[from+at[0] : from+at[1]]
		if letter, ok := letters[u]; ok {
			text += letter
		} else if digits := number.FindStringSubmatch(u); digits != nil {
			n, _ := strconv.ParseUint(digits[1], 16, 64)
			if n > utf8.MaxRune || !utf8.ValidRune(rune(n)) {
				return "", from + at[0] + 2
			}
			text += string(rune(n))
		} else if !folds.MatchString(u) {
			text += u
		}
	}
	return text, -1
}

// look if a text is read as the grammar has it, at its beginning and with bytes ahead of it.
func look(t *testing.T, s string) {
	t.Helper()
	text, end, fault := tquotes.Read(s, 0)
	wantText, wantEnd, wantFault := wanted(s)
	if text != wantText || end != wantEnd || fault != wantFault {
		t.Fatalf("%q: %q, %d, %v, not %q, %d, %v", s, text, end, fault, wantText, wantEnd, wantFault)
	}
	const ahead = `x = "'` + "\n"
	if fault.Code != api.CoOK {
		wantFault.At += len(ahead)
	} else {
		wantEnd += len(ahead)
	}
	text, end, fault = tquotes.Read(ahead+s, len(ahead))
	if text != wantText || end != wantEnd || fault != wantFault {
		t.Fatalf("%q, further on: %q, %d, %v, not %q, %d, %v", s, text, end, fault, wantText, wantEnd, wantFault)
	}
}

// everyText hands on all texts of up to so many of the parts.
func everyText(parts []string, most int, look func(s string)) {
	look("")
	if most == 0 {
		return
	}
	for _, part := range parts {
		everyText(parts, most-1, func(s string) {
			look(part + s)
		})
	}
}

// parts are what strings are made of, whole, cut, and spoilt.
var parts = []string{`"`, `'`, `\`, `\"`, `\t`, `u`, `004`, `1`, `\u00e9`, `\U0001F600`, `\ud800`, `\U00110000`, " ", "\t", "\n", "\r", "\r\n", "é", "\xFF", "\x7F"}

// strs are strings, with their texts.
var strs = []struct{ s, text string }{
	{`""`, ""},
	{`"a"`, "a"},
	{`"a\tb"`, "a\tb"},
	{`"C:\\x"`, `C:\x`},
	{"\"a\tb ~\"", "a\tb ~"},
	{`"\b\t\n\f\r\"\\"`, "\x08\x09\x0A\x0C\x0D\"\\"},
	{`"'/#='''"`, "'/#='''"},
	{`"\u0041\u00e9\u20AC\uD7ff\ue000\uFfFf\u0000\u007F"`, "Aé€\uD7FF\uE000\uFFFF\x00\x7F"},
	{`"\U00000041\U0001f600\U0010FFFF\U0000d7FF\U0000E000\U00000000"`, "A😀\U0010FFFF\uD7FF\uE000\x00"},
	{`"\u00411\U000000411"`, "A1A1"},
	{`"\\u0041\\\\n"`, `\u0041\\n`},
	{"\"é€😀\u0085\u2028\x80\xFF\xC3\"", "é€😀\u0085\u2028\x80\xFF\xC3"},
	{`''`, ""},
	{`'a'`, "a"},
	{`'C:\x'`, `C:\x`},
	{`'\'`, `\`},
	{"'a\"b\\n\\u0041\t\"\"\"é\xFF'", "a\"b\\n\\u0041\t\"\"\"é\xFF"},
	{`""""""`, ""},
	{`"""a"""`, "a"},
	{`"""a"b""c"""`, `a"b""c`},
	{`""""a"""`, `"a`},
	{`"""""a"""`, `""a`},
	{`"""a""""`, `a"`},
	{`"""a"""""`, `a""`},
	{`"""""""`, `"`},
	{`""""""""`, `""`},
	{`"""\""""`, `"`},
	{`"""""\""""""`, `"""""`},
	{`"""\"\"\""""`, `"""`},
	{`"""'a'''b"""`, "'a'''b"},
	{"\"\"\"\na\nb\r\nc\n\"\"\"", "a\nb\r\nc\n"},
	{"\"\"\"\r\na\"\"\"", "a"},
	{"\"\"\"\n\na\"\"\"", "\na"},
	{"\"\"\"\r\n\r\na\"\"\"", "\r\na"},
	{"\"\"\"\n\r\na\"\"\"", "\r\na"},
	{"\"\"\" \na\"\"\"", " \na"},
	{"\"\"\"\t\r\n\"\"\"", "\t\r\n"},
	{"\"\"\"\\\n\na\"\"\"", "a"},
	{"\"\"\"\n\\\n\na\"\"\"", "a"},
	{"\"\"\"a \\\n b\"\"\"", "a b"},
	{"\"\"\"a\\ \t \r\n\t \n\r\n\n  b \"\"\"", "ab "},
	{"\"\"\"a\\\n\\\nb\"\"\"", "ab"},
	{"\"\"\"a\\\n \\n\n\"\"\"", "a\n\n"},
	{"\"\"\"a\\\n\"\"\"\"\"", "a\"\""},
	{"\"\"\"\"\\\n\"\"\\\n\"\"\"", "\"\"\""},
	{"\"\"\"\\\\\n\"\"\"", "\\\n"},
	{"\"\"\"\\u00e9\\U0001F600\\b\\r\\n\"\"\"", "é😀\x08\r\n"},
	{`''''''`, ""},
	{`'''a'''`, "a"},
	{`'''a'b''c'''`, `a'b''c`},
	{`''''a'''`, `'a`},
	{`'''''a'''`, `''a`},
	{`'''a''''`, `a'`},
	{`'''a'''''`, `a''`},
	{`'''''''`, `'`},
	{`''''''''`, `''`},
	{`'''\'''`, `\`},
	{`'''"a"""b'''`, `"a"""b`},
	{"'''\na\nb\r\nc\n'''", "a\nb\r\nc\n"},
	{"'''\r\na'''", "a"},
	{"'''\n\na'''", "\na"},
	{"'''\n\r\na'''", "\r\na"},
	{"''' \na'''", " \na"},
	{"'''a\\\n  b'''", "a\\\n  b"},
	{"'''\t\\u0041é\xFF'''", "\t\\u0041é\xFF"},
}

// P4.1

// behind strings may stand whatever there is, but of a mark's three to five none more.
var behind = []string{"", "a", " ", "\n", "\r", "\x00", ", ", "\xFF", `\`, `\"`, "#", "="}

func TestReadOfStrings(t *testing.T) {
	for _, c := range strs {
		for _, ahead := range []string{"", "x = ", "\"", "\xFF\n"} {
			for _, b := range behind {
				text, end, fault := tquotes.Read(ahead+c.s+b, len(ahead))
				if text != c.text || end != len(ahead+c.s) || fault != (api.Fault{}) {
					t.Errorf("%q, ahead %q, behind %q: %q, %d, %v", c.s, ahead, b, text, end, fault)
				}
			}
		}
		look(t, c.s)
	}
}

// TestReadOfEnds: of marks in a row, how many are the string's?
func TestReadOfEnds(t *testing.T) {
	for _, c := range []struct {
		s, text string
		end     int
	}{
		{`"a""`, "a", 3}, {`"a"""`, "a", 3}, {`""a"`, "", 2}, {`"a"'`, "a", 3}, {`'a''`, "a", 3}, {`'a'''`, "a", 3}, {`''a'`, "", 2}, {`'a'"`, "a", 3}, {`"a'"b'`, "a'", 4},
		{`"""a""""""`, `a""`, 9}, {`"""a"""""""""`, `a""`, 9}, {`"""""""""`, `""`, 8}, {`""""""""""`, `""`, 8}, {`"""a"""b"""`, "a", 7}, {`"""a""""b"""`, `a"`, 8}, {`"""a"""'''`, "a", 7},
		{`'''a''''''`, `a''`, 9}, {`'''a'''''''''`, `a''`, 9}, {`'''''''''`, `''`, 8}, {`''''''''''`, `''`, 8}, {`'''a'''b'''`, "a", 7}, {`'''a''''b'''`, `a'`, 8}, {`'''a'''"""`, "a", 7},
		{`""'`, "", 2}, {`""'''`, "", 2}, {`''"`, "", 2}, {`''"""`, "", 2},
	} {
		if text, end, fault := tquotes.Read(c.s, 0); text != c.text || end != c.end || fault != (api.Fault{}) {
			t.Errorf("%s: %q, %d, %v", c.s, text, end, fault)
		}
		look(t, c.s)
	}
}

func TestReadOfNoStrings(t *testing.T) {
	for _, c := range []struct {
		s  string
		at int
	}{
		{"", 0}, {"a", 0}, {` "a"`, 0}, {"\n''", 0}, {`\"a"`, 0}, {"\xFF", 0}, {"`a`", 0}, {"\uFEFF\"\"", 0},
		{`"`, 1}, {`"a`, 2}, {`"é`, 3}, {`"a\"`, 4}, {`"a\\`, 4}, {`"a'`, 3}, {`"\u0041`, 7}, {"\"a\nb\"", 2}, {"\"\r\n\"", 1}, {"\"a\rb\"", 2}, {"\"\x00\"", 1}, {"\"a\x08\"", 2}, {"\"a\x0B\"", 2}, {"\"a\x1F\"", 2}, {"\"a\x7F\"", 2},
		{`"\`, 2}, {`"\x"`, 2}, {`"\/"`, 2}, {`"\'"`, 2}, {`"\e"`, 2}, {`"\a"`, 2}, {`"\v"`, 2}, {`"\0"`, 2}, {`"\N"`, 2}, {`"\B"`, 2}, {`"\ "`, 2}, {"\"\\\n\"", 2}, {"\"\\\r\n\"", 2}, {"\"\\ \n\"", 2}, {"\"\\\t\"", 2}, {"\"\\\xFF\"", 2}, {`"\é"`, 2},
		{`"\u`, 3}, {`"\u"`, 3}, {`"\u1"`, 4}, {`"\u12"`, 5}, {`"\u123"`, 6}, {`"\u123`, 6}, {`"\ug123"`, 3}, {`"\u1g23"`, 4}, {`"\u12g3"`, 5}, {`"\u123g"`, 6}, {`"\u123G"`, 6}, {`"\u{41}"`, 3}, {`"\u+041"`, 3}, {`"\u-041"`, 3}, {`"\u00_4"`, 5}, {`"\u0x41"`, 4}, {`"\u 041"`, 3},
		{`"\U`, 3}, {`"\U"`, 3}, {`"\U0041"`, 7}, {`"\U0000041"`, 10}, {`"\U0000004`, 10}, {`"\U0000004g"`, 10}, {`"\Ug0000041"`, 3}, {`"\U0001F60"`, 10}, {`"\UFFFFFFF"`, 10}, {`"\Ud800"`, 7},
		{`"\ud800"`, 3}, {`"\uD800"`, 3}, {`"\udbff"`, 3}, {`"\udc00"`, 3}, {`"\uDFFF"`, 3}, {`"\ud83d\ude00"`, 3}, {`"ab\ud800"`, 5}, {`"é\n\udfff"`, 7}, {`"\U0000d800"`, 3}, {`"\U0000DFFF"`, 3}, {`"\U00110000"`, 3}, {`"\U00200041"`, 3}, {`"\U01000041"`, 3}, {`"\U10000041"`, 3}, {`"\U7FFFFFFF"`, 3}, {`"\U80000000"`, 3}, {`"\U80000041"`, 3}, {`"\UFFFFFFFF"`, 3},
		{`"\ud800`, 3}, {`"\ud800\x"`, 3}, {"\"\\ud800\n\"", 3}, {`"\x\ud800"`, 2}, {"\"\n\\ud800\"", 1}, {`"\u12\ud800"`, 5},
		{`'`, 1}, {`'a`, 2}, {`'a\`, 3}, {`'a"`, 3}, {"'a\nb'", 2}, {"'a\r\nb'", 2}, {"'\rb'", 1}, {"'\x00'", 1}, {"'a\x08'", 2}, {"'a\x0B'", 2}, {"'a\x1F'", 2}, {"'é\x7F'", 3},
		{`"""`, 3}, {`""""`, 4}, {`"""""`, 5}, {`"""a`, 4}, {`"""a"`, 5}, {`"""a""`, 6}, {`"""a""b`, 7}, {`"""a\"""`, 8}, {`"""a'''`, 7}, {`"""\`, 4}, {`"""\x"""`, 4}, {`"""\'"""`, 4}, {`"""a""\x"""`, 7}, {`"""\u12"""`, 7}, {`"""\ud800"""`, 5}, {"\"\"\"\n\\ud800\"\"\"", 6}, {"\"\"\"\r\n\\U00110000\"\"\"", 7}, {`"""\ud800`, 5},
		{"\"\"\"\r", 4}, {"\"\"\"\ra\"\"\"", 4}, {"\"\"\"\r\r\n\"\"\"", 4}, {"\"\"\"a\r", 5}, {"\"\"\"a\rb\"\"\"", 5}, {"\"\"\"a\r\"\"\"", 5}, {"\"\"\"a\"\r\"\"\"", 6}, {"\"\"\"\n\r\"\"\"", 5}, {"\"\"\"\n", 4}, {"\"\"\"\r\n", 5}, {"\"\"\"a\n", 5}, {"\"\"\"\x00\"\"\"", 3}, {"\"\"\"\n\x1F\"\"\"", 4}, {"\"\"\"a\x7F\"\"\"", 4},
		{"\"\"\"\\ ", 5}, {"\"\"\"\\ x\"\"\"", 5}, {"\"\"\"\\ \t\"\"\"", 6}, {"\"\"\"\\ \\\n\"\"\"", 5}, {"\"\"\"\\\r\"\"\"", 5}, {"\"\"\"\\\r", 5}, {"\"\"\"\\ \rx\"\"\"", 6}, {"\"\"\"\\\n", 5}, {"\"\"\"\\\n ", 6}, {"\"\"\"\\\n\r\"\"\"", 6}, {"\"\"\"\\\n \rx\"\"\"", 7}, {"\"\"\"\\\n\r", 6}, {"\"\"\"\\\n\x0B\"\"\"", 5}, {"\"\"\"\\\x0B\n\"\"\"", 4}, {"\"\"\"\\ n\"\"\"", 5}, {"\"\"\"\\\n\\x\"\"\"", 6},
		{`'''`, 3}, {`''''`, 4}, {`'''''`, 5}, {`'''a`, 4}, {`'''a'`, 5}, {`'''a''`, 6}, {`'''a''b`, 7}, {`'''a"""`, 7}, {"'''\r", 4}, {"'''\ra'''", 4}, {"'''\r\r\n'''", 4}, {"'''a\rb'''", 5}, {"'''a\r'''", 5}, {"'''a'\r'''", 6}, {"'''\n", 4}, {"'''a\r", 5}, {"'''\x00'''", 3}, {"'''a\x08'''", 4}, {"'''a\n\x7F'''", 5}, {"'''\\\r '''", 5},
	} {
		if text, end, fault := tquotes.Read(c.s, 0); text != "" || end != 0 || fault != (api.Fault{Code: api.CoSyntax, At: c.at}) {
			t.Errorf("%q: %q, %d, %v", c.s, text, end, fault)
		}
		look(t, c.s)
	}
}

func TestReadOfPlaces(t *testing.T) {
	const most = int(^uint(0) >> 1)
	for _, c := range []struct {
		s       string
		at, bad int
	}{
		{"", 0, 0}, {"", 1, 0}, {"", -1, 0}, {"a", 0, 0}, {"a", 1, 1}, {"a", 2, 0}, {`""`, 2, 2}, {`""`, 3, 0}, {`""`, -1, 0}, {`""`, most, 0}, {`""`, -most - 1, 0}, {`a""`, 0, 0}, {`abc''`, 2, 2}, {`"a"`, 2, 3}, {`"a"`, 1, 1},
	} {
		text, end, fault := tquotes.Read(c.s, c.at)
		if text != "" || end != 0 || fault != (api.Fault{Code: api.CoSyntax, At: c.bad}) {
			t.Errorf("%q at %d: %q, %d, %v", c.s, c.at, text, end, fault)
		}
	}
	if text, end, fault := tquotes.Read(`'''`, 1); text != "" || end != 3 || fault != (api.Fault{}) {
		t.Errorf("%q, %d, %v", text, end, fault)
	}
}

// TestReadOfEveryByte: in each kind, which bytes stand for themselves, which ones end it, and which ones may not stand there?
func TestReadOfEveryByte(t *testing.T) {
	for n := range 256 {
		b := string([]byte{byte(n)})
		plain := n == 9 || n >= 32 && n <= 126 || n >= 128
		for _, mark := range []string{`"`, `'`, `"""`, `'''`} {
			at := len(mark) + 1
			text, end, fault := tquotes.Read(mark+"a"+b+mark, 0)
			ownText, wantText := text == "a"+b && end == len(mark+"a"+b+mark), plain && b != `"` && b != `'` && b != `\`
			wantText = wantText || b == `"` && mark != `"` || b == `'` && mark != `'` || b == `\` && mark[0] == '\'' || n == 10 && len(mark) == 3
			if ownText != wantText {
				t.Errorf("%s: %q: %q, %d, %v", mark, b, text, end, fault)
			}
			if !plain && n != 10 && n != 13 && fault != (api.Fault{Code: api.CoSyntax, At: at}) {
				t.Errorf("%s: %q: %v", mark, b, fault)
			}
			look(t, mark+"a"+b+mark)
			look(t, mark+b+"a"+mark)
			look(t, mark+`\`+b+mark)
			look(t, mark+`\ `+b+"\n"+mark)
			look(t, mark+"\\\n"+b+mark)
			look(t, mark+`\u004`+b+mark)
			look(t, mark+`\U0000004`+b+mark)
			look(t, b+mark+"a"+mark)
		}
	}
}

// TestReadOfEveryText: whatever a few parts make, is it read as the grammar has it?
func TestReadOfEveryText(t *testing.T) {
	for _, mark := range []string{`"`, `'`, `"""`, `'''`} {
		everyText(parts, 3, func(s string) {
			look(t, mark+s)
			look(t, mark+s+mark)
		})
	}
	everyText(parts, 2, func(s string) { look(t, s) })
	everyText([]string{`"`, `'`, `\`, "\r", "\n", " ", "a"}, 5, func(s string) {
		look(t, `"""`+s)
		look(t, `'''`+s)
	})
}

func TestReadOfLongTexts(t *testing.T) {
	const many = 500000
	for _, c := range []struct{ mark, unit, text string }{
		{`"`, "a", "a"}, {`"`, `\t`, "\t"}, {`"`, `\u00e9`, "é"}, {`'`, `\`, `\`}, {`"""`, `""a`, `""a`}, {`"""`, "\n", "\n"}, {`"""`, "\\\n ", ""}, {`"""`, `\U0001F600`, "😀"}, {`'''`, `''"`, `''"`}, {`'''`, "\r\n", "\r\n"},
	} {
		s, text := c.mark+"x"+strings.Repeat(c.unit, many)+c.mark, "x"+strings.Repeat(c.text, many)
		if got, end, fault := tquotes.Read(s, 0); got != text || end != len(s) || fault != (api.Fault{}) {
			t.Errorf("%s%s, often: %d bytes, %d, %v", c.mark, c.unit, len(got), end, fault)
		}
		inner := len(s) - len(c.mark)
		if got, end, fault := tquotes.Read(s[:inner], 0); got != "" || end != 0 || fault != (api.Fault{Code: api.CoSyntax, At: inner}) {
			t.Errorf("%s%s, often, cut: %d bytes, %d, %v", c.mark, c.unit, len(got), end, fault)
		}
		if got, end, fault := tquotes.Read(s[:inner]+"\x00", 0); got != "" || end != 0 || fault != (api.Fault{Code: api.CoSyntax, At: inner}) {
			t.Errorf("%s%s, often, spoilt: %d bytes, %d, %v", c.mark, c.unit, len(got), end, fault)
		}
	}
}

// TestReadOfManyStrings: one costs what it has itself, not what stands behind it.
func TestReadOfManyStrings(t *testing.T) {
	const many = 1000000
	s := strings.Repeat(`"a"`, many)
	for i := range many {
		if text, end, fault := tquotes.Read(s, 3*i); text != "a" || end != 3*i+3 || fault != (api.Fault{}) {
			t.Fatalf("%d: %q, %d, %v", i, text, end, fault)
		}
	}
}

// TestEscapesOfEveryNumber: of four digits all, of eight those of all runes, and some that are none.
func TestEscapesOfEveryNumber(t *testing.T) {
	try := func(n int, escapes ...string) {
		for _, e := range escapes {
			text, end, fault := tquotes.Read(`"`+e+`"`, 0)
			if n > utf8.MaxRune || !utf8.ValidRune(rune(n)) {
				if text != "" || end != 0 || fault != (api.Fault{Code: api.CoSyntax, At: 3}) {
					t.Fatalf("%s: %q, %d, %v", e, text, end, fault)
				}
			} else if text != string(rune(n)) || end != len(e)+2 || fault != (api.Fault{}) {
				t.Fatalf("%s: %q, %d, %v", e, text, end, fault)
			}
		}
	}
	for n := range 0x120000 {
		if n < 65536 {
			try(n, fmt.Sprintf(`\u%04x`, n), fmt.Sprintf(`\u%04X`, n))
		}
		try(n, fmt.Sprintf(`\U%08x`, n), fmt.Sprintf(`\U%08X`, n))
	}
	for bit := range 32 {
		for _, below := range []int{0, 65, 0xD7FF, 0x10FFFF} {
			n := 1<<bit | below
			try(n, fmt.Sprintf(`\U%08x`, n))
		}
	}
}

// P4.2

func TestLong(t *testing.T) {
	const most = int(^uint(0) >> 1)
	for _, c := range []struct {
		s    string
		at   int
		want bool
	}{
		{`"""`, 0, true}, {`'''`, 0, true}, {`"""a"""`, 0, true}, {`'''a'''`, 0, true}, {`""""""`, 0, true}, {`""""""`, 3, true}, {`""""""`, 4, false}, {`""""`, 1, true}, {"\"\"\"\x00", 0, true}, {`''''`, 1, true}, {`'''a'''`, 4, true},
		{`""`, 0, false}, {`"a"`, 0, false}, {`''`, 0, false}, {`'a'`, 0, false}, {`"`, 0, false}, {`""'`, 0, false}, {`''"`, 0, false}, {`"''`, 0, false}, {`'""`, 0, false}, {`""a"`, 0, false},
		{`a"""`, 0, false}, {`a"""`, 1, true}, {`a"""`, 2, false}, {`x = '''`, 4, true}, {"aaa", 0, false}, {"```", 0, false}, {`\"""`, 0, false}, {` """`, 0, false},
		{"", 0, false}, {"", 1, false}, {"", -1, false}, {`"""`, -1, false}, {`"""`, 3, false}, {`"""`, 4, false}, {`"""`, most, false}, {`"""`, -most - 1, false},
	} {
		if got := tquotes.Long(c.s, c.at); got != c.want {
			t.Errorf("%q at %d: %v", c.s, c.at, got)
		}
	}
}

func TestLongOfEveryText(t *testing.T) {
	everyText([]string{`"`, `'`, `\`, "a", "\n"}, 5, func(s string) {
		for at := -1; at <= len(s)+1; at++ {
			want := at >= 0 && at <= len(s) && (strings.HasPrefix(s[at:], `"""`) || strings.HasPrefix(s[at:], `'''`))
			if got := tquotes.Long(s, at); got != want {
				t.Fatalf("%q at %d: %v", s, at, got)
			}
		}
	})
}

// P4.3

func TestWrite(t *testing.T) {
	for _, c := range []struct{ text, want string }{
		{"", `""`},
		{"a", `"a"`},
		{"a'é/#='''", `"a'é/#='''"`},
		{"\b\t\n\f\r\"\\", `"\b\t\n\f\r\"\\"`},
		{"a\r\nb", `"a\r\nb"`},
		{"\x00\x01\x07\x0B\x0E\x0F\x10\x1A\x1B\x1F ~\x7F", `"\u0000\u0001\u0007\u000B\u000E\u000F\u0010\u001A\u001B\u001F ~\u007F"`},
		{"\u0080\u0085\u2028é€😀", "\"\u0080\u0085\u2028é€😀\""},
		{"\x80\xFF\xC3\xED\xA0\xBD", "\"\x80\xFF\xC3\xED\xA0\xBD\""},
		{`"""`, `"\"\"\""`},
		{`\u0041`, `"\\u0041"`},
		{"\x001", `"\u00001"`},
		{"\\\n ", `"\\\n "`},
	} {
		if got := tquotes.Write(c.text); got != c.want {
			t.Errorf("%q: %s", c.text, got)
		}
	}
}

// TestWriteOfEveryByte: alone, and among others, a byte has one unit.
func TestWriteOfEveryByte(t *testing.T) {
	of := func(c byte) string {
		for letter, tells := range letters {
			if tells == string([]byte{c}) {
				return letter
			}
		}
		if c < 32 || c == 127 {
			return fmt.Sprintf(`\u%04X`, c)
		}
		return string([]byte{c})
	}
	for c := range 256 {
		for d := range 256 {
			text := string([]byte{byte(c), byte(d)})
			if got := tquotes.Write(text); got != `"`+of(byte(c))+of(byte(d))+`"` {
				t.Fatalf("%q: %q", text, got)
			}
		}
	}
}

// P4.4

// again reads what is written, with bytes behind it that are none of its own.
func again(t *testing.T, text string) {
	t.Helper()
	s := tquotes.Write(text)
	for _, b := range append([]string{`"`, `"""`, `'''`}, behind...) {
		if text == "" && strings.HasPrefix(b, `"`) {
			continue // of one mark more a long string begins
		}
		if got, end, fault := tquotes.Read(s+b, 0); got != text || end != len(s) || fault != (api.Fault{}) {
			t.Fatalf("%q: %q, behind it %q: %q, %d, %v", text, s, b, got, end, fault)
		}
	}
}

func TestWrittenIsRead(t *testing.T) {
	for _, c := range strs {
		again(t, c.text)
		again(t, c.s)
	}
	for c := range 256 {
		for d := range 256 {
			again(t, string([]byte{byte(c), byte(d)}))
		}
	}
	everyText(parts, 3, func(s string) { again(t, s) })
	again(t, strings.Repeat("\x00\"😀\xFF\n", 200000))
}

// TestKindsAgree: what is a short string's inside tells the same in the long one of its kind, and a literal one tells its inside.
func TestKindsAgree(t *testing.T) {
	everyText(parts, 3, func(s string) {
		for _, mark := range []string{`"`, `'`} {
			if strings.HasPrefix(s, mark) {
				continue
			}
			short, end, fault := tquotes.Read(mark+s+mark, 0)
			if fault != (api.Fault{}) || end != len(s)+2 {
				continue
			}
			three := mark + mark + mark
			if long, end, fault := tquotes.Read(three+s+three, 0); long != short || end != len(s)+6 || fault != (api.Fault{}) {
				t.Fatalf("%s, %q: %q, but %q, %d, %v", mark, s, short, long, end, fault)
			}
		}
		if strings.ContainsAny(s, "\r\n'\x7F") {
			return
		}
		if text, end, fault := tquotes.Read("'"+s+"'", 0); text != s || end != len(s)+2 || fault != (api.Fault{}) {
			t.Fatalf("%q: %q, %d, %v", s, text, end, fault)
		}
	})
}

// R4

// TestAnswersAreTheirOwn: no answer stands in the room of what was handed in.
func TestAnswersAreTheirOwn(t *testing.T) {
	within := func(a, b string) bool {
		at, from := uintptr(unsafe.Pointer(unsafe.StringData(a))), uintptr(unsafe.Pointer(unsafe.StringData(b)))
		return from <= at && at < from+uintptr(len(b))
	}
	for _, mark := range []string{`"`, `'`, `"""`, `'''`} {
		s := mark + "some text, as it stands" + mark
		text, _, _ := tquotes.Read(s, 0)
		if text != s[len(mark):len(s)-len(mark)] || within(text, s) {
			t.Errorf("%q", text)
		}
	}
	const text = "some text, as it stands"
	if written := tquotes.Write(text); written != `"`+text+`"` || within(written, text) {
		t.Errorf("%q", written)
	}
}
