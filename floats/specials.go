package floats

// Special values' normal forms.
const (
	least    = "-inf"
	greatest = "inf"
	none     = "nan"
)

// middle is the rank of all decimals; that of the one special value ahead of them is 0.
const middle = 1

// special value of a text; ok: it tells one.
func special(s string) (text string, ok bool) {
	minus, rest := signed(s)
	switch {
	case rest == none:
		return none, true
	case rest == greatest && minus != "":
		return least, true
	case rest == greatest:
		return greatest, true
	}
	return "", false
}

// rank of a normal form, by which special values stand around the decimals: each case adds to those below it.
func rank(text string) (n int) {
	switch text {
	case none:
		n++
		fallthrough
	case greatest:
		n++
		fallthrough
	default:
		n += middle
	case least:
	}
	return n
}
