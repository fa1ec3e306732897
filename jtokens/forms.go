package jtokens

import "strings"

// form of a kind's tokens.
type form struct {
	firsts string                                    // at one of these bytes a token begins
	end    func(b []byte, at int) (end int, ok bool) // of the token that begins there; not ok: the first byte that does not fit
}

const (
	blanks  = " \t\n\r"
	marks   = "{}[],:"
	letters = "abcdefghijklmnopqrstuvwxyz"
	digits  = "0123456789"
	figures = "0123456789abcdefABCDEF" // the digits of base 16
	escapes = `"\/bfnrt`
)

// forms by their kinds. No byte is a first one of two of them.
func forms() [5]form {
	return [...]form{
		JtSpace: {blanks, spaceEnd},
		JtMark:  {marks, markEnd},
		JtWord:  {letters, wordEnd},
		JtNum:   {"-" + digits, numberEnd},
		JtStr:   {`"`, stringEnd},
	}
}

// stands tells if one of these bytes stands at a place.
func stands(b []byte, at int, bytes string) bool {
	return at < len(b) && strings.IndexByte(bytes, b[at]) >= 0
}

// behind those of these bytes that stand at a place.
func behind(b []byte, at int, bytes string) int {
	for stands(b, at, bytes) {
		at++
	}
	return at
}

func spaceEnd(b []byte, at int) (end int, ok bool) { return behind(b, at, blanks), true }

func markEnd(b []byte, at int) (end int, ok bool) { return at + 1, true }

func wordEnd(b []byte, at int) (end int, ok bool) {
	end = behind(b, at, letters)
	switch string(b[at:end]) {
	case "true", "false", "null":
		return end, true
	}
	return at, false
}

// numberEnd is behind the last part that is whole; what is begun behind it is left to be the next token.
func numberEnd(b []byte, at int) (end int, ok bool) {
	next := at
	if stands(b, next, "-") {
		next++
	}
	if stands(b, next, "0") {
		end = next + 1
		goto point
	}
	end = behind(b, next, digits)
	if end == next {
		return end, false
	}
point:
	if !stands(b, end, ".") {
		goto power
	}
	next = behind(b, end+1, digits)
	if next == end+1 {
		goto whole
	}
	end = next
power:
	if !stands(b, end, "eE") {
		goto whole
	}
	next = end + 1
	if stands(b, next, "+-") {
		next++
	}
	if stands(b, next, digits) {
		end = behind(b, next, digits)
	}
whole:
	return end, true
}

func stringEnd(b []byte, at int) (end int, ok bool) {
	end = at + 1
	for end < len(b) && b[end] >= 32 {
		switch b[end] {
		case '"':
			return end + 1, true
		case '\\':
			end, ok = escapeEnd(b, end)
			if !ok {
				return end, false
			}
		default:
			end++
		}
	}
	return end, false
}

func escapeEnd(b []byte, at int) (end int, ok bool) {
	end = at + 1
	if stands(b, end, escapes) {
		return end + 1, true
	}
	if !stands(b, end, "u") {
		return end, false
	}
	end++
	for range 4 {
		if !stands(b, end, figures) {
			return end, false
		}
		end++
	}
	return end, true
}
