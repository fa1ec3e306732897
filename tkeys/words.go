package tkeys

import (
	"strings"

	"inarch/api"
	"inarch/tquotes"
)

// word that begins at a place: its text, and the place behind it.
func word(s string, at int) (text string, end int, fault api.Fault) {
	if end := past(s, at, inBare); end > at {
		return strings.Clone(s[at:end]), end, api.Fault{}
	}
	if tquotes.Long(s, at) {
		return "", at + 2, api.Fault{} // a word is no long string: two of its marks are one
	}
	return tquotes.Read(s, at) // if none begins there, or there is no such place, that is told too
}

// past those bytes at a place that are of a kind: where they end; the place itself, if there is no such one.
func past(s string, at int, of func(c byte) bool) int {
	for at >= 0 && at < len(s) && of(s[at]) {
		at++
	}
	return at
}

func blank(c byte) bool { return c == '\t' || c == ' ' }

func inBare(c byte) bool {
	return 'a' <= c && c <= 'z' || 'A' <= c && c <= 'Z' || '0' <= c && c <= '9' || c == '_' || c == '-'
}
