package paths

import (
	"slices"
	"strconv"
	"strings"

	"inarch/api"
)

const (
	none   = "."    // the text of the path of no steps
	marks  = "/[=]" // what parts a text into words
	digits = "0123456789abcdef"
)

// written is a step's text, of one that may be.
func written(s api.Step) string {
	switch s.Kind {
	case api.StAt:
		return "[" + strconv.Itoa(s.At) + "]"
	case api.StID:
		return "[" + spelt(s.Text) + "=" + spelt(s.ID) + "]"
	}
	return "/" + spelt(s.Text)
}

// spelt is a key, or an ID, as it stands in a text.
func spelt(s string) string {
	var b strings.Builder
	for _, c := range []byte(s) {
		if c < 32 || c == 127 || c == '%' || strings.IndexByte(marks, c) >= 0 {
			b.Write([]byte{'%', digits[c>>4], digits[c&15]})
		} else {
			b.WriteByte(c)
		}
	}
	return b.String()
}

// told is what is spelt so; false, if nothing is.
func told(word string) (string, bool) {
	var b strings.Builder
	for at := 0; at < len(word); at++ {
		c := word[at]
		if c == '%' && at+2 < len(word) {
			// What is no digit is -1, and makes a byte that is not spelt with % at all.
			c = byte(strings.IndexByte(digits, word[at+1])<<4 | strings.IndexByte(digits, word[at+2]))
			at += 2
		}
		b.WriteByte(c)
	}
	s := b.String()
	return s, spelt(s) == word
}

// steps of a text, one at least; false, if no path has it.
func steps(s string) ([]api.Step, bool) {
	at := 0
	// word goes on behind a mark and the word that follows it, if both stand there; else it stays.
	word := func(mark byte) (string, bool) {
		if at == len(s) || s[at] != mark {
			return "", false
		}
		end := len(s)
		if next := strings.IndexAny(s[at+1:], marks); next >= 0 {
			end = at + 1 + next
		}
		text, ok := told(s[at+1 : end])
		if ok {
			at = end
		}
		return text, ok
	}
	var p []api.Step
	for at < len(s) {
		one, ok := step(word)
		if !ok || len(p) == api.MaxSteps {
			return nil, false
		}
		p = append(p, one)
	}
	return slices.Clip(p), len(p) > 0
}

// step that stands next in a text.
func step(word func(mark byte) (string, bool)) (api.Step, bool) {
	if key, ok := word('/'); ok {
		return api.Step{Kind: api.StKey, Text: key}, true
	}
	text, ok := word('[')
	if !ok {
		return api.Step{}, false
	}
	s := api.Step{Kind: api.StID, Text: text}
	if s.ID, ok = word('='); !ok {
		s = api.Step{Kind: api.StAt}
		s.At, ok = number(text)
	}
	rest, closed := word(']')
	return s, ok && closed && rest == ""
}

// number that a text tells as a place is written.
func number(s string) (int, bool) {
	n, err := strconv.Atoi(s)
	return n, err == nil && n >= 0 && strconv.Itoa(n) == s
}
