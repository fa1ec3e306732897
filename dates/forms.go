package dates

// Forms of parts: a letter stands for a digit of the number that it names, all else for itself.
const (
	dateForm = "YYYY-MM-DD"
	timeForm = "hh:mm:ss"
	eastForm = "+hh:mm"
	westForm = "-hh:mm"
)

// cut off what is of one of the forms; part: nothing, if the text begins as none of them says.
func cut(s string, forms ...string) (part, rest string) {
	for _, form := range forms {
		if begins(s, form) {
			return s[:len(form)], s[len(form):]
		}
	}
	return "", s
}

// begins tells if a text begins as a form says.
func begins(s, form string) bool {
	if len(s) < len(form) {
		return false
	}
	for i, c := range form {
		if isLetter(c) && !isDigit(s[i]) || !isLetter(c) && rune(s[i]) != c {
			return false
		}
	}
	return true
}

// number in a part of a form: of the digits for which a letter stands.
func number(part, form string, letter rune) (n int) {
	for i, c := range form {
		if c == letter {
			n = 10*n + int(part[i]-'0')
		}
	}
	return n
}

func isLetter(c rune) bool { return 'A' <= c && c <= 'Z' || 'a' <= c && c <= 'z' }

func isDigit(c byte) bool { return '0' <= c && c <= '9' }
