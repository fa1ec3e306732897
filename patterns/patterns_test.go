package patterns_test

import (
	"fmt"
	"math"
	"math/rand"
	"slices"
	"strings"
	"sync"
	"testing"
	"unsafe"

	"inarch/api"
	"inarch/patterns"
)

func key(s string) api.Step { return api.Step{Kind: api.StKey, Text: s} }

func at(n int) api.Step { return api.Step{Kind: api.StAt, At: n} }

func id(field, s string) api.Step { return api.Step{Kind: api.StID, Text: field, ID: s} }

func path(l ...api.Step) []api.Step { return l }

// often is a step so many times.
func often(s api.Step, many int) []api.Step { return slices.Repeat(path(s), many) }

// brief is what a failure tells: of a great thing no more than how it begins.
func brief(x any) string {
	s := fmt.Sprintf("%+q", fmt.Sprint(x))
	return s[:min(300, len(s))]
}

// parsed is a text's pattern, of one that has one.
func parsed(t *testing.T, s string) *patterns.Pattern {
	t.Helper()
	p, fault := patterns.Parse(s)
	if p == nil || fault != (api.Fault{}) {
		t.Fatalf("%s: %v, %v", brief(s), p, fault)
	}
	return p
}

// everyText of up to so many of some parts.
func everyText(parts []string, most int, look func(s string)) {
	look("")
	if most == 0 {
		return
	}
	for _, part := range parts {
		everyText(parts, most-1, func(s string) { look(part + s) })
	}
}

// everyPath of up to so many of some steps.
func everyPath(steps []api.Step, most int) [][]api.Step {
	l, first := [][]api.Step{nil}, 0
	for range most {
		last := len(l)
		for _, shorter := range l[first:last] {
			for _, s := range steps {
				l = append(l, append(slices.Clone(shorter), s))
			}
		}
		first = last
	}
	return l
}

// P17.1, and of what is read P17.3

// asRead holds Parse, Text and Len against the model.
func asRead(t *testing.T, s string) bool {
	t.Helper()
	p, fault := patterns.Parse(s)
	if wrong := wrongAt(s); wrong >= 0 {
		if p != nil || fault != (api.Fault{Code: api.CoSyntax, At: wrong}) {
			t.Fatalf("%+q: %s, %v, not at %d", s, brief(p.Text()), fault, wrong)
		}
		return false
	}
	if p == nil || fault != (api.Fault{}) {
		t.Fatalf("%+q: %v", s, fault)
	}
	if p.Text() != written(s) || p.Len() != len(parts(s)) {
		t.Fatalf("%+q: %+q, %d", s, p.Text(), p.Len())
	}
	return true
}

func TestParse(t *testing.T) {
	for s, want := range map[string]struct {
		text string
		long int
	}{
		".": {".", 0}, "/": {"/", 1}, "//": {"//", 2}, "/.": {"/.", 1}, "/a/b": {"/a/b", 2}, "/*": {"/*", 1}, "/**": {"/**", 1}, "/**/**": {"/**/**", 2}, "/*/**/*": {"/*/**/*", 3},
		"[*]": {"[*]", 1}, "[=]": {"[=]", 1}, "[=*]": {"[=*]", 1}, "[a=]": {"[a=]", 1}, "[=b]": {"[=b]", 1}, "[a=*][*]/*": {"[a=*][*]/*", 3}, "/l[id=7]/v": {"/l[id=7]/v", 3}, "[3=0]": {"[3=0]", 1},
		"/%41%2F": {"/A%2f", 1}, "/%2a": {"/%2a", 1}, "/%2A%2a": {"/%2a%2a", 1}, "[%3d=%5D]": {"[%3d=%5d]", 1}, "[%61=%2a]": {"[a=%2a]", 1}, "/é\xff": {"/%c3%a9%ff", 1}, "/%C3%a9": {"/%c3%a9", 1}, "/%00%20%7F!~": {"/%00%20%7f!~", 1},
		"/%25%32%35": {"/%2525", 1}, "/%2E": {"/.", 1}, "/\"a\"'": {"/\"a\"'", 1},
	} {
		p := parsed(t, s)
		if p.Text() != want.text || p.Len() != want.long {
			t.Errorf("%q: %q, %d", s, p.Text(), p.Len())
		}
		asRead(t, s)
	}
}

func TestFaults(t *testing.T) {
	for s, at := range map[string]int{
		"": 0, "a": 0, " ": 0, "\n": 0, "*": 0, "**": 0, "%2f": 0, "]": 0, "=": 0, "é": 0, "\x00": 0, "..": 1, "./a": 1, ".[*]": 1, ". ": 1, ".\n": 1,
		"/a b": 2, "/a ": 2, "/a\t": 2, "/a\n": 2, "/a\x7f": 2, "/\x00": 1, "/ ": 1, "/a]": 2, "/a=": 2, "/a*": 2, "/a**": 2, "/*a": 2, "/*%61": 2, "/***": 3, "/**a": 3, "/** ": 3, "/**.": 3, "/x*": 2, "//*/a*": 5,
		"/%": 2, "/a%": 3, "/a%2": 4, "/%4g": 3, "/%g4": 2, "/%%": 2, "/%%25": 2, "/%2%": 3, "/%2/a": 3, "/% 2": 2, "/%+1": 2, "/%-1": 2, "/%_1": 2, "/%1_": 3, "/%0x": 3, "/%é": 2, "/%G0": 2, "/%0G": 3, "/%`0": 2, "/%@0": 2, "/%:0": 2, "/%0:": 3, "/%\x00": 2, "/%\x11\x11": 2,
		"[": 1, "[*": 2, "[**": 2, "[*=": 2, "[* ]": 2, "[]": 1, "[ ]": 1, "[0]": 2, "[a": 2, "[a]": 2, "[a*": 2, "[a/": 2, "[a[": 2, "[/": 1, "[[": 1, "[%": 2, "[%4": 3, "[%zz=a]": 2,
		"[=": 2, "[a=": 3, "[a=b": 4, "[a=*": 4, "[a=**]": 4, "[a=*b]": 4, "[a=b*]": 4, "[a==]": 3, "[a=b=c]": 4, "[a=b/]": 4, "[a=b[": 4, "[a= ]": 3, "[a=%": 4, "[a=%1]": 5, "[a=%1": 5, "[a=b]]": 5, "[a=b]c": 5, "[*]*": 3, "[*]a": 3, "[a=*]=": 5, "[*]/[*]": -1,
	} {
		if at < 0 {
			parsed(t, s)
		} else if p, fault := patterns.Parse(s); p != nil || fault != (api.Fault{Code: api.CoSyntax, At: at}) {
			t.Errorf("%+q: %v, %v, not at %d", s, p, fault, at)
		}
		asRead(t, s)
	}
}

func TestManySteps(t *testing.T) {
	for _, part := range []string{"/", "/a", "/*", "/**", "/%2f", "[*]", "[a=b]", "[=*]", "[%5d=%5b]"} {
		s := strings.Repeat(part, 512)
		if p := parsed(t, s); p.Len() != 512 || p.Text() != s {
			t.Errorf("%q: %d, %s", part, p.Len(), brief(p.Text()))
		}
		for _, more := range []string{"/", "[", "/a", "[*]", "[a=b]", "/**", "/ ", "[]", "[*", " ", "]", "=", "\n"} {
			for _, behind := range []string{more, more + s, more + " "} {
				if p, fault := patterns.Parse(s + behind); p != nil || fault != (api.Fault{Code: api.CoSyntax, At: len(s)}) {
					t.Errorf("%q, %q behind: %v, not at %d", part, more, fault, len(s))
				}
			}
		}
		few := strings.Repeat(part, 511)
		if p := parsed(t, few+"[a=*]"); p.Len() != 512 {
			t.Errorf("%q: %d", part, p.Len())
		}
		// What is wrong in the last step that may be is ahead of one too many.
		if p, fault := patterns.Parse(few + "/% /a"); p != nil || fault != (api.Fault{Code: api.CoSyntax, At: len(few) + 2}) {
			t.Errorf("%q, and a wrong one: %v", part, fault)
		}
	}
	s := strings.Repeat("/a", 512)
	for behind, at := range map[string]int{"b": -1, "%41": -1, "%4": 1026, "%": 1025, "b/": 1025, "b*": 1025, "%4/": 1026, "*": 1024} {
		p, fault := patterns.Parse(s + behind)
		if at < 0 && (p == nil || p.Len() != 512) || at >= 0 && (p != nil || fault != (api.Fault{Code: api.CoSyntax, At: at})) {
			t.Errorf("%q behind: %v, not at %d", behind, fault, at)
		}
	}
}

func TestParseOfSmallTexts(t *testing.T) {
	few, many := 0, 0
	for most, parts := range map[int][]string{4: {".", "/", "*", "[", "]", "=", "a", "0", "%", "2", "f", "F", "g", "%2A", " ", "\n", "\x7f", "é", "\xff"}, 6: {"/", "*", "[", "]", "=", "a", "%2f"}, 5: {"/", "*", "[", "]", "=", "%", "1", "A", "."}} {
		everyText(parts, most, func(s string) {
			many++
			if asRead(t, s) {
				few++
			}
		})
	}
	if few < 2000 || many-few < 100000 {
		t.Errorf("%d of %d texts are patterns'", few, many)
	}
}

// TestParseOfChangedTexts: of each byte at each place.
func TestParseOfChangedTexts(t *testing.T) {
	for _, s := range []string{".", "/*/**[*]/a", "/a%2fb[id=%5Bx]", "[=][%5b=*]//"} {
		for i := range len(s) + 1 {
			asRead(t, s[:i])
			asRead(t, s[i:])
			for c := range 256 {
				x := string([]byte{byte(c)})
				asRead(t, s[:i]+x+s[i:])
				if i < len(s) {
					asRead(t, s[:i]+x+s[i+1:])
				}
			}
		}
	}
}

// P17.2

func TestMatch(t *testing.T) {
	for _, c := range []struct {
		s       string
		yes, no [][]api.Step
	}{
		{".", [][]api.Step{nil, path()}, [][]api.Step{path(key("")), path(key(".")), path(at(0))}},
		{"/", [][]api.Step{path(key(""))}, [][]api.Step{nil, path(key("/")), path(key(""), key("")), path(at(0)), path(id("", ""))}},
		{"/a/*/c", [][]api.Step{path(key("a"), key("b"), key("c")), path(key("a"), key(""), key("c")), path(key("a"), key("*"), key("c"))}, [][]api.Step{path(key("a"), key("c")), path(key("a"), key("b"), key("b"), key("c")), path(key("a"), at(0), key("c")), path(key("a"), id("b", "b"), key("c")), path(key("A"), key("b"), key("c"))}},
		{"/**/x", [][]api.Step{path(key("x")), path(key("a"), key("b"), key("x")), path(key("x"), key("x")), path(at(1), id("x", "x"), key("x"))}, [][]api.Step{nil, path(key("a")), path(key("x"), key("a")), path(id("x", "x"))}},
		{"/**/a/**/a", [][]api.Step{path(key("a"), key("a")), path(key("a"), key("b"), key("a")), path(key("b"), key("a"), key("b"), key("a")), often(key("a"), 5)}, [][]api.Step{nil, path(key("a")), path(key("a"), key("b")), path(key("b"), key("a")), path(key("a"), key("a"), key("b"))}},
		{"/a/**", [][]api.Step{path(key("a")), path(key("a"), at(3)), path(key("a"), key("b"), id("c", "d"))}, [][]api.Step{nil, path(key("b")), path(key("b"), key("a"))}},
		{"/l[id=7]/v", [][]api.Step{path(key("l"), id("id", "7"), key("v"))}, [][]api.Step{path(key("l"), id("id", "07"), key("v")), path(key("l"), id("", "7"), key("v")), path(key("l"), at(7), key("v")), path(key("l"), key("id"), key("v")), path(key("l"), id("id", "7"))}},
		{"[*]", [][]api.Step{path(at(0)), path(at(math.MaxInt)), path(id("", "")), path(id("a", "b"))}, [][]api.Step{nil, path(key("*")), path(key("")), path(at(0), at(0))}},
		{"[a=*]", [][]api.Step{path(id("a", "")), path(id("a", "b")), path(id("a", "*"))}, [][]api.Step{path(id("", "")), path(id("A", "b")), path(key("a")), path(at(0))}},
		{"[a=%2a]", [][]api.Step{path(id("a", "*"))}, [][]api.Step{path(id("a", "")), path(id("a", "b")), path(id("a", "%2a"))}},
		{"/%2a%2A", [][]api.Step{path(key("**"))}, [][]api.Step{nil, path(key("a")), path(key("*")), path(key("%2a%2A"))}},
		{"/%c3%A9", [][]api.Step{path(key("é"))}, [][]api.Step{path(key("\xc3")), path(key("É")), path(key("e\u0301"))}},
		{"/\xff%00%20", [][]api.Step{path(key("\xff\x00 "))}, [][]api.Step{path(key("\ufffd\x00 ")), path(key("\xff"))}},
	} {
		p := parsed(t, c.s)
		for _, l := range c.yes {
			if !p.Match(l) {
				t.Errorf("%q, %v: no match", c.s, l)
			}
		}
		for _, l := range c.no {
			if p.Match(l) {
				t.Errorf("%q, %v: a match", c.s, l)
			}
		}
	}
}

// TestMatchOfSteps: each kind of a pattern's step, and each kind of a path's, such as are none too.
func TestMatchOfSteps(t *testing.T) {
	texts := []string{"", "a", "b", "*", "%2a", "\x00", "é"}
	for _, s := range []string{".", "/", "/a", "/%61", "/*", "/**", "/%2a", "/%252a", "/%00", "/é", "[*]", "[=]", "[=*]", "[a=]", "[=a]", "[a=a]", "[a=b]", "[b=a]", "[a=*]", "[a=%2A]", "[%2a=*]", "[é=%C3%a9]"} {
		p := parsed(t, s)
		for _, kind := range []api.StepKind{api.StKey, api.StAt, api.StID, 3, 255} {
			for _, text := range texts {
				for _, name := range texts {
					for _, place := range []int{math.MinInt, -1, 0, 7} {
						l := path(api.Step{Kind: kind, Text: text, ID: name, At: place})
						if match := p.Match(l); match != matches(parts(s), l) {
							t.Fatalf("%q, %v: %t", s, l, match)
						}
					}
				}
			}
		}
	}
}

// someParts of patterns, and someSteps of paths.
var (
	someParts = []string{"/a", "/b", "/*", "/**", "[*]", "[a=b]", "[a=*]"}
	someSteps = path(key("a"), key("b"), at(0), id("a", "b"), id("a", "c"))
)

// TestMatchOfEveryPair holds Match against the model.
func TestMatchOfEveryPair(t *testing.T) {
	met, many := 0, 0
	look := func(s string, paths [][]api.Step) {
		if s == "" {
			s = "."
		}
		p, l := parsed(t, s), parts(s)
		for _, one := range paths {
			match := p.Match(one)
			if match != matches(l, one) {
				t.Fatalf("%q, %v: %t", s, one, match)
			}
			many++
			if match {
				met++
			}
		}
	}
	all, two := everyPath(someSteps, 4), everyPath(path(key("a"), key("b")), 8)
	everyText(someParts, 4, func(s string) { look(s, all) })
	everyText([]string{"/a", "/b", "/**"}, 6, func(s string) { look(s, two) })
	if met < 50000 || many-met < 500000 {
		t.Errorf("%d of %d match", met, many)
	}
}

func TestMatchOfRandomPairs(t *testing.T) {
	r := rand.New(rand.NewSource(1))
	met := 0
	for range 20000 {
		s, l := "", path()
		for range r.Intn(10) {
			s += []string{"/a", "/b", "/*", "/**", "/**", "[*]"}[r.Intn(6)]
		}
		for range r.Intn(14) {
			l = append(l, path(key("a"), key("a"), key("b"), at(1))[r.Intn(4)])
		}
		if s == "" {
			s = "."
		}
		match := parsed(t, s).Match(l)
		if match != matches(parts(s), l) {
			t.Fatalf("%q, %v: %t", s, l, match)
		}
		if match {
			met++
		}
	}
	if met < 1000 {
		t.Errorf("only %d match", met)
	}
}

// P17.3

func TestTextOfBytes(t *testing.T) {
	for c := range 256 {
		small, great := fmt.Sprintf("%%%02x", c), fmt.Sprintf("%%%02X", c)
		written := small
		if c > 32 && c < 127 && !strings.Contains("%/[]=*", string(rune(c))) {
			written = string(rune(c))
		}
		for form, with := range map[string]func(s string) api.Step{"/?": key, "[?=x]": func(s string) api.Step { return id(s, "x") }, "[x=?]": func(s string) api.Step { return id("x", s) }} {
			for _, spelling := range []string{small, great, written} {
				p := parsed(t, strings.Replace(form, "?", spelling+"a"+spelling, 1))
				text := strings.Replace(form, "?", written+"a"+written, 1)
				s := string([]byte{byte(c), 'a', byte(c)})
				if p.Text() != text || p.Len() != 1 || !p.Match(path(with(s))) || p.Match(path(with(text))) {
					t.Errorf("%q in %q: %q, %d", spelling, form, p.Text(), p.Len())
				}
			}
		}
	}
}

// R1, R3

func TestNoPattern(t *testing.T) {
	var none *patterns.Pattern
	var made patterns.Pattern
	for _, p := range []*patterns.Pattern{none, &made, new(patterns.Pattern)} {
		for _, l := range append(everyPath(someSteps, 2), nil, often(at(0), 600)) {
			if p.Match(l) {
				t.Errorf("matches %s", brief(l))
			}
		}
		if p.Text() != "" || p.Len() != 0 {
			t.Errorf("%q, %d", p.Text(), p.Len())
		}
	}
}

func TestGreatThings(t *testing.T) {
	s := strings.Repeat("a%2f", 1<<20)
	for _, text := range []string{"/" + s, "[" + s + "=" + s + "]"} {
		if p := parsed(t, text); p.Text() != text {
			t.Error(brief(p.Text()))
		}
	}
	for _, text := range []string{"[" + s, "[" + s + "=" + s} {
		if p, fault := patterns.Parse(text); p != nil || fault != (api.Fault{Code: api.CoSyntax, At: len(text)}) {
			t.Error(fault)
		}
	}
	if p, fault := patterns.Parse(strings.Repeat("/", 1<<20)); p != nil || fault.At != 512 {
		t.Error(fault)
	}
	// Paths that are longer than any that may be, and patterns that part them in very many ways.
	long := often(key("a"), 1<<16)
	for s, want := range map[string]bool{"/**": true, strings.Repeat("/**", 512): true, strings.Repeat("/**/a", 256): true, strings.Repeat("/**/a", 255) + "/**/b": false, "/**" + strings.Repeat("/a", 510) + "/b": false, strings.Repeat("/*", 512): false, "/**/b/**": false, strings.Repeat("/**/*", 255) + "/b": false, ".": false} {
		if match := parsed(t, s).Match(long); match != want {
			t.Errorf("%s: %t", brief(s), match)
		}
	}
	if !parsed(t, strings.Repeat("/a", 512)).Match(often(key("a"), 512)) || parsed(t, strings.Repeat("/a", 512)).Match(often(key("a"), 513)) {
		t.Error("512 keys")
	}
}

// P17.4

// TestTexts: a pattern's text is one of the same.
func TestTexts(t *testing.T) {
	all := everyPath(someSteps, 3)
	everyText([]string{"/%61", "/b", "/*", "/**", "[*]", "[%61=%62]", "[a=*]", "/%2A"}, 3, func(s string) {
		if s == "" {
			s = "."
		}
		p := parsed(t, s)
		again := parsed(t, p.Text())
		if again.Text() != p.Text() || again.Len() != p.Len() {
			t.Fatalf("%q: %q, then %q", s, p.Text(), again.Text())
		}
		for _, l := range all {
			if p.Match(l) != again.Match(l) {
				t.Fatalf("%q, %v: %t", s, l, p.Match(l))
			}
		}
	})
}

func TestTextsOfRandomWords(t *testing.T) {
	r := rand.New(rand.NewSource(2))
	for range 3000 {
		b := make([]byte, r.Intn(60))
		r.Read(b)
		name, field, value := string(b), string(b[len(b)/2:]), string(b[:len(b)/2])
		text := "/" + patterns.Spell(name) + "[" + patterns.Spell(field) + "=" + patterns.Spell(value) + "]"
		p := parsed(t, text)
		if p.Text() != text || p.Len() != 2 || !p.Match(path(key(name), id(field, value))) || p.Match(path(key(name+"a"), id(field, value))) || p.Match(path(key(name), id(field, value+"a"))) {
			t.Fatalf("%q, %q: %q", name, field, p.Text())
		}
	}
}

// TestWithoutStars: just one path.
func TestWithoutStars(t *testing.T) {
	texts := []string{"", "a", "b", "ab", "*", "**", ".", "/", "[=]", "%", "%2a", " ", "\x00", "\x7f", "é", "\xff"}
	l := path(at(0), at(1))
	s := []string{"", ""} // the word of each step, if one has it
	for _, text := range texts {
		l, s = append(l, key(text)), append(s, "/"+spelt(text))
		for _, name := range texts {
			l, s = append(l, id(text, name)), append(s, "["+spelt(text)+"="+spelt(name)+"]")
		}
	}
	for i, text := range s {
		if text == "" {
			continue
		}
		p, twice := parsed(t, text), parsed(t, text+text)
		if !twice.Match(path(l[i], l[i])) || twice.Match(path(l[i])) || p.Match(nil) {
			t.Fatalf("%q: not that one path", text)
		}
		for k, one := range l {
			if p.Match(path(one)) != (i == k) || twice.Match(path(one, l[i])) != (i == k) || p.Match(path(one, one)) {
				t.Fatalf("%q, %v: %t", text, one, p.Match(path(one)))
			}
		}
	}
}

// starred are the texts with a star for one of the words of a pattern's, or `/**` for some of its steps, one behind the other.
func starred(s string) (l []string) {
	steps := parts(s)
	with := func(from, to int, text string) {
		l = append(l, strings.Join(steps[:from], "")+text+strings.Join(steps[to:], ""))
	}
	for i, part := range steps {
		for k := i; k < len(steps); k++ {
			with(i, k+1, "/**")
		}
		if part[0] == '/' && part[1:] != "**" {
			with(i, i+1, "/*")
		}
		if part[0] == '[' && part != "[*]" {
			field, _ := halves(part)
			with(i, i+1, "["+field+"=*]")
			with(i, i+1, "[*]")
		}
	}
	return l
}

func TestStars(t *testing.T) {
	all := everyPath(someSteps, 4)
	met := 0
	everyText(someParts, 3, func(s string) {
		if s == "" {
			return
		}
		p := parsed(t, s)
		for _, other := range starred(s) {
			wider := parsed(t, other)
			for _, l := range all {
				if p.Match(l) {
					met++
					if !wider.Match(l) {
						t.Fatalf("%v: %q, not %q", l, s, other)
					}
				}
			}
		}
	})
	if met < 10000 {
		t.Errorf("only %d match", met)
	}
}

// P17.5

// asTold holds Word, and Spell of what it tells, against the model.
func asTold(t *testing.T, s string) bool {
	t.Helper()
	word, ok := patterns.Word(s)
	want := oneWord.MatchString(s)
	if ok != want || !ok && word != "" || ok && word != told(s) {
		t.Fatalf("%+q: %+q, %t", s, word, ok)
	}
	if ok && patterns.Spell(word) != spelt(word) {
		t.Fatalf("%+q: %+q", word, patterns.Spell(word))
	}
	return ok
}

func TestWord(t *testing.T) {
	for s, want := range map[string]string{"": "", "a": "a", ".": ".", "a.b-c": "a.b-c", "%41%2f": "A/", "%2F": "/", "x%20y": "x y", "%2a": "*", "%00": "\x00", "%fF": "\xff", "é": "é", "\xff": "\xff", "%25%32%35": "%25", "%2525": "%25", "a%3D%5b%5D": "a=[]"} {
		if word, ok := patterns.Word(s); !ok || word != want {
			t.Errorf("%q: %q, %t", s, word, ok)
		}
	}
	for _, s := range []string{" ", "a b", "a ", " a", "*", "a*", "**", "/", "/a", "a/b", "[", "]", "=", "a=b", "a=", "[*]", "%", "%4", "a%", "a%4", "%zz", "%4z", "%z4", "%%", "%%41", "% 4", "%+4", "\n", "a\n", "\x00", "\x1f", "\x7f", "a\x7f"} {
		if word, ok := patterns.Word(s); ok || word != "" {
			t.Errorf("%q: %q, %t", s, word, ok)
		}
	}
}

func TestWordOfSmallTexts(t *testing.T) {
	few, many := 0, 0
	look := func(s string) {
		many++
		if asTold(t, s) {
			few++
		}
	}
	everyText([]string{"a", "%", "2", "f", "A", "g", "*", "/", " ", "é", "\xff", "%2a"}, 4, look)
	for a := range 256 {
		for b := range 256 {
			look(string([]byte{byte(a), byte(b)}))
			look(string([]byte{'%', byte(a), byte(b)}))
		}
	}
	if few < 20000 || many-few < 20000 {
		t.Errorf("%d of %d texts are words", few, many)
	}
}

func TestSpell(t *testing.T) {
	for word, want := range map[string]string{"": "", "a": "a", "a b": "a%20b", "%": "%25", "%41": "%2541", "/[]=*": "%2f%5b%5d%3d%2a", "\x00\x1f !~\x7f": "%00%1f%20!~%7f", "é": "%c3%a9", "\x80\xff": "%80%ff", "\n": "%0a", ".": ".", "{}\"'\\": "{}\"'\\"} {
		if s := patterns.Spell(word); s != want {
			t.Errorf("%q: %q", word, s)
		}
	}
	for c := range 256 {
		s := string([]byte{byte(c)})
		word := patterns.Spell("a" + s + s)
		if word != "a"+spelt(s)+spelt(s) {
			t.Errorf("%q: %q", s, word)
		}
		if again, ok := patterns.Word(word); !ok || again != "a"+s+s {
			t.Errorf("%q is read as %q, %t", word, again, ok)
		}
	}
	r := rand.New(rand.NewSource(3))
	for range 3000 {
		b := make([]byte, r.Intn(60))
		r.Read(b)
		s := patterns.Spell(string(b))
		if word, ok := patterns.Word(s); !ok || word != string(b) || s != spelt(word) {
			t.Fatalf("%q: %q, %q, %t", b, s, word, ok)
		}
	}
}

// R1: nothing that is handed in is kept, or changed. R4: what is answered is memory of its own.

// shares tells if a text stands within another one's memory.
func shares(a, b string) bool {
	at, from := uintptr(unsafe.Pointer(unsafe.StringData(a))), uintptr(unsafe.Pointer(unsafe.StringData(b)))
	return from <= at && at < from+uintptr(len(b))
}

func TestNothingIsKept(t *testing.T) {
	for _, s := range []string{".", "/abc", "/a/*/c/**", "[abc=def]", "[abc=*][*]", "/%61"} {
		b := []byte(s)
		p := parsed(t, unsafe.String(&b[0], len(b)))
		text := p.Text()
		for i := range b {
			b[i] = 'x'
		}
		if p.Text() != text || text != written(s) {
			t.Errorf("%q is %q", s, p.Text())
		}
	}
	b := []byte("/abc[def=ghi]")
	p := parsed(t, unsafe.String(&b[0], len(b)))
	clear(b)
	if !p.Match(path(key("abc"), id("def", "ghi"))) || p.Match(path(key("\x00\x00\x00"), id("\x00\x00\x00", "\x00\x00\x00"))) {
		t.Error("another pattern now")
	}
	for _, s := range []string{"abc", "a%2fb", "é"} {
		if word, ok := patterns.Word(s); !ok || shares(word, s) {
			t.Errorf("%q: %q, %t", s, word, ok)
		}
		if word := patterns.Spell(s); shares(word, s) {
			t.Errorf("%q: %q", s, word)
		}
	}
	if p := parsed(t, "/abc/*"); shares(p.Text(), p.Text()) {
		t.Error("two answers share a text")
	}
}

func TestNothingIsChanged(t *testing.T) {
	room := path(key("a"), at(3), id("b", "c"), key("behind"))
	for _, s := range []string{"/a[*][b=c]", "/**", "/**/behind", "/**[*]/**", "."} {
		p := parsed(t, s)
		text, match := p.Text(), p.Match(room[:3])
		p.Match(room)
		p.Match(nil)
		if p.Text() != text || p.Match(room[:3]) != match || !slices.Equal(room, path(key("a"), at(3), id("b", "c"), key("behind"))) {
			t.Errorf("%q: %q, %v", s, p.Text(), room)
		}
	}
}

// TestManyAtOnce: a pattern is only looked at.
func TestManyAtOnce(t *testing.T) {
	p := parsed(t, "/**/a/**[*]")
	var all sync.WaitGroup
	for range 8 {
		all.Go(func() {
			for range 100 {
				if !p.Match(path(key("b"), key("a"), at(1))) || p.Match(path(key("b"), at(1))) || p.Text() != "/**/a/**[*]" || p.Len() != 4 {
					t.Error("otherwise at once")
				}
			}
		})
	}
	all.Wait()
}
