package quotes

// short is an escape of two bytes: the letter behind the `\`, and the byte that it tells.
type short struct{ letter, tells byte }

var shorts = [...]short{
	{'"', '"'},
	{'\\', '\\'},
	{'/', '/'},
	{'b', 8},
	{'f', 12},
	{'n', 10},
	{'r', 13},
	{'t', 9},
}

// The first numbers of high and of low ones, and the one behind both.
const (
	firstHigh = 55296
	firstLow  = 56320
	behindLow = 57344
)

// figures are the digits of base 16 that are written.
const figures = "0123456789abcdef"

func high(n int) bool { return firstHigh <= n && n < firstLow }

func low(n int) bool { return firstLow <= n && n < behindLow }

// plain tells if a byte may stand for itself.
func plain(c byte) bool { return c >= 32 && c != '"' && c != '\\' }

// digit of base 16, of either case; -1: it is none.
func digit(c byte) int {
	switch {
	case '0' <= c && c <= '9':
		return int(c - '0')
	case 'a' <= c && c <= 'f':
		return int(c-'a') + 10
	case 'A' <= c && c <= 'F':
		return int(c-'A') + 10
	}
	return -1
}

// put the shortest unit that tells a byte behind others.
func put(b []byte, c byte) []byte {
	if plain(c) {
		return append(b, c)
	}
	for _, e := range shorts {
		if e.tells == c {
			return append(b, '\\', e.letter)
		}
	}
	return append(b, '\\', 'u', '0', '0', figures[c>>4], figures[c&15])
}
