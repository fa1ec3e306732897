package utf8s

// What the first byte of a rune has ahead of the number's uppermost bits, and a mask of these, by how many bytes are behind it.
var (
	heads = [...]byte{0x00, 0xC0, 0xE0, 0xF0}
	masks = [...]byte{0x7F, 0x1F, 0x0F, 0x07}
)

// long tells how many bytes the rune has that begins b (which has one byte at least); 0: none does, or it isn't whole.
func long(b []byte) int {
	n := behind(b[0])
	if n < 0 || n >= len(b) {
		return 0
	}
	switch n {
	case 3:
		if !within(b[3], 0x80, 0xBF) {
			return 0
		}
		fallthrough
	case 2:
		if !within(b[2], 0x80, 0xBF) {
			return 0
		}
		fallthrough
	case 1:
		least, greatest := second(b[0])
		if !within(b[1], least, greatest) {
			return 0
		}
	}
	return 1 + n
}

// behind tells how many bytes stand behind a first one; -1: it is none.
func behind(first byte) int {
	switch {
	case within(first, 0x00, 0x7F):
		return 0
	case within(first, 0xC2, 0xDF):
		return 1
	case within(first, 0xE0, 0xEF):
		return 2
	case within(first, 0xF0, 0xF4):
		return 3
	}
	return -1
}

// second tells the bounds of the byte behind a first one: no number is to be written in more bytes than it needs, none is half of a pair of surrogates, and none is above 1114111.
func second(first byte) (least, greatest byte) {
	switch first {
	case 0xE0:
		return 0xA0, 0xBF
	case 0xED:
		return 0x80, 0x9F
	case 0xF0:
		return 0x90, 0xBF
	case 0xF4:
		return 0x80, 0x8F
	}
	return 0x80, 0xBF
}

func within(c, least, greatest byte) bool { return least <= c && c <= greatest }

// count tells how many runes there are in bytes that are runes.
func count(b []byte) int {
	n := 0
	for _, c := range b {
		if !within(c, 0x80, 0xBF) {
			n++
		}
	}
	return n
}

// number of the rune whose bytes these are, all of them.
func number(b []byte) int {
	n := int(b[0] & masks[len(b)-1])
	for _, c := range b[1:] {
		n = n<<6 | int(c&0x3F)
	}
	return n
}

// known is the number itself, or 65533 for what is no rune's number.
func known(r int) int {
	if r < 0 || r > 1114111 || 55296 <= r && r <= 57343 {
		return 65533
	}
	return r
}

// more tells how many bytes a rune has behind its first one.
func more(r int) int {
	switch {
	case r < 1<<7:
		return 0
	case r < 1<<11:
		return 1
	case r < 1<<16:
		return 2
	}
	return 3
}

// put a rune's bytes behind others.
func put(b []byte, r int) []byte {
	n := more(r)
	b = append(b, heads[n]|byte(r>>(6*n)))
	for n > 0 {
		n--
		b = append(b, 0x80|byte(r>>(6*n))&0x3F)
	}
	return b
}
