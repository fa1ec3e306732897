package tvalues

import (
	"strings"

	"inarch/api"
	"inarch/dates"
	"inarch/floats"
	"inarch/ints"
)

// tell the value without marks that a text begins with, and how many bytes it has.
func tell(s string) (kind api.Kind, text string, many int, code api.Code) {
	if many = dates.Long(s); many > 0 {
		text, code = dates.Read(s[:many])
		return api.VkDate, text, many, code
	}
	for many < len(s) && inToken(s[many]) {
		many++
	}
	kind, text, code = token(s[:many])
	return kind, text, many, code
}

func token(s string) (kind api.Kind, text string, code api.Code) {
	switch s {
	case "true":
		return api.VkBool, "true", api.CoOK
	case "false":
		return api.VkBool, "false", api.CoOK
	}
	if text, code = ints.Read(s); code != api.CoSyntax {
		return api.VkInt, text, code
	}
	text, code = floats.Read(s)
	return api.VkFloat, text, code
}

func inToken(c byte) bool {
	return 'a' <= c && c <= 'z' || 'A' <= c && c <= 'Z' || '0' <= c && c <= '9' || strings.IndexByte("+-_.", c) >= 0
}

// plain bytes may stand in a comment.
func plain(c byte) bool { return c == '\t' || ' ' <= c && c <= '~' || c >= 128 }

// stands: do those bytes, at a place that is one?
func stands(s string, at int, text string) bool {
	return at >= 0 && at <= len(s) && strings.HasPrefix(s[at:], text)
}
