package patterns_test

import (
	"fmt"
	"regexp"
	"strconv"
	"strings"

	"inarch/api"
)

// The chapter's words, case by case, beside the package's own way.

const (
	ofWord = `(?:[^\x00-\x20\x7f%/\[\]=*]|%[0-9a-fA-F]{2})*`
	ofStep = `(?:/\*\*|/\*|/` + ofWord + `|\[\*\]|\[` + ofWord + `=` + ofWord + `\]|\[` + ofWord + `=\*\])`
	begun  = ofWord + `(?:%[0-9a-fA-F]?)?`
)

var (
	whole     = regexp.MustCompile(`^(?:\.|` + ofStep + `+)$`)
	beginning = regexp.MustCompile(`^(?:\.|` + ofStep + `*(?:/` + begun + `|\[\*?|\[` + begun + `|\[` + ofWord + `=(?:\*|` + begun + `))?)$`)
	oneStep   = regexp.MustCompile(`/\*\*|/\*|/` + ofWord + `|\[[^\]]*\]`)
	oneWord   = regexp.MustCompile(`^` + ofWord + `$`)
	oneByte   = regexp.MustCompile(`%..`)
)

// begins tells if a pattern begins with a text: no word has a byte by which a step begins.
func begins(s string) bool {
	return beginning.MatchString(s) && strings.Count(s, "/")+strings.Count(s, "[") <= 512
}

// wrongAt is the first byte by which a text is no pattern's any more; -1: it is a pattern's.
func wrongAt(s string) int {
	for at := range len(s) {
		if !begins(s[:at+1]) {
			return at
		}
	}
	if whole.MatchString(s) {
		return -1
	}
	return len(s)
}

// told is what a word tells.
func told(word string) string {
	return oneByte.ReplaceAllStringFunc(word, func(c string) string {
		n, _ := strconv.ParseUint(c[1:], 16, 8)
		return string([]byte{byte(n)})
	})
}

// spelt is the word that tells a text.
func spelt(s string) string {
	word := ""
	for i := range len(s) {
		if c := s[i]; c <= 32 || c >= 127 || strings.Contains("%/[]=*", s[i:i+1]) {
			word += fmt.Sprintf("%%%02x", c)
		} else {
			word += s[i : i+1]
		}
	}
	return word
}

// parts of a pattern's text: its steps' texts.
func parts(s string) []string { return oneStep.FindAllString(s, -1) }

// halves of the text of a step that has a field: what stands at both sides of its `=`.
func halves(part string) (field, id string) {
	field, id, _ = strings.Cut(part[1:len(part)-1], "=")
	return field, id
}

// written is a pattern's text, its words spelt as they are told.
func written(s string) string {
	if s == "." {
		return s
	}
	text := ""
	for _, part := range parts(s) {
		switch {
		case part == "/*" || part == "/**" || part == "[*]":
			text += part
		case part[0] == '/':
			text += "/" + spelt(told(part[1:]))
		default:
			field, id := halves(part)
			if id != "*" {
				id = spelt(told(id))
			}
			text += "[" + spelt(told(field)) + "=" + id + "]"
		}
	}
	return text
}

// takes tells if a pattern's step takes a path's one.
func takes(part string, s api.Step) bool {
	switch {
	case part == "/*":
		return s.Kind == api.StKey
	case part[0] == '/':
		return s.Kind == api.StKey && s.Text == told(part[1:])
	case part == "[*]":
		return s.Kind == api.StAt || s.Kind == api.StID
	}
	field, id := halves(part)
	return s.Kind == api.StID && s.Text == told(field) && (id == "*" || s.ID == told(id))
}

// matches tells if a path can be parted so that a pattern's steps take it all: each way of parting it is tried.
func matches(l []string, path []api.Step) bool {
	if len(l) == 0 {
		return len(path) == 0
	}
	if l[0] != "/**" {
		return len(path) > 0 && takes(l[0], path[0]) && matches(l[1:], path[1:])
	}
	for i := range len(path) + 1 {
		if matches(l[1:], path[i:]) {
			return true
		}
	}
	return false
}
