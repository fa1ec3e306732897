package tquotes

// short is an escape of two bytes: the letter behind the `\`, and the byte that it tells.
type short struct{ letter, tells byte }

var shorts = [...]short{
	{'b', 8},
	{'t', 9},
	{'n', 10},
	{'f', 12},
	{'r', 13},
	{'"', '"'},
	{'\\', '\\'},
}

// figures are the digits of base 16 that are written.
const figures = "0123456789ABCDEF"

// plain tells if a byte may stand in a string as it is, if it is not one of those that mean something there.
func plain(c byte) bool { return c == '\t' || c >= 32 && c != 127 }

// isRune tells if a number is a rune's.
func isRune(n int) bool { return 0 <= n && n <= 55295 || 57344 <= n && n <= 1114111 }

// digit of base 16, of either case; -1: it is none.
func digit(c byte) int {
	switch {
	case '0' <= c && c <= '9':
		return int(c - '0')
	case 'a' <= c && c <= 'f':
		return int(c-'a') + 10
	case 'A' <= c && c <= 'F':
		return int(c-'A') + 10
	}
	return -1
}

// put the unit that tells a byte behind others.
func put(b []byte, c byte) []byte {
	for _, e := range shorts {
		if e.tells == c {
			return append(b, '\\', e.letter)
		}
	}
	if plain(c) {
		return append(b, c)
	}
	return append(b, '\\', 'u', '0', '0', figures[c>>4], figures[c&15])
}
