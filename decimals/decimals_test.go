package decimals_test

import (
	"math/big"
	"regexp"
	"slices"
	"strings"
	"testing"

	"inarch/api"
	"inarch/decimals"
)

// The grammars, as the chapter's words say them, beside the package's own way of going through a text.
var (
	number     = regexp.MustCompile(`^-?(0|[1-9][0-9]*)(\.[0-9]+)?([eE][+-]?[0-9]+)?$`)
	normalForm = regexp.MustCompile(`^(0|-?[1-9]([0-9]*[1-9])?e(0|-?[1-9][0-9]*))$`)
)

// everyText hands on all texts of up to so many of the letters.
func everyText(letters string, most int, look func(s string)) {
	look("")
	var grow func(s string)
	grow = func(s string) {
		if len(s) == most {
			return
		}
		for i := range len(letters) {
			more := s + letters[i:i+1]
			look(more)
			grow(more)
		}
	}
	grow("")
}

// value of a number's text, by the library.
func value(t *testing.T, s string) *big.Rat {
	t.Helper()
	r, ok := new(big.Rat).SetString(s)
	if !ok {
		t.Fatalf("%q: no number to the library", s)
	}
	return r
}

// P2.1

func TestReadOfNumbers(t *testing.T) {
	for _, c := range []struct{ s, want string }{
		{"-0.50e1", "-5e0"},
		{"1200", "12e2"},
		{"0.0", "0"},
		{"1", "1e0"},
		{"-1", "-1e0"},
		{"9", "9e0"},
		{"10", "1e1"},
		{"1.0", "1e0"},
		{"10e-1", "1e0"},
		{"0.1", "1e-1"},
		{"-12.5", "-125e-1"},
		{"0.0012", "12e-4"},
		{"1200.0034", "12000034e-4"},
		{"1200.00", "12e2"},
		{"100.100", "1001e-1"},
		{"0.00100e2", "1e-1"},
		{"-3.1400e0", "-314e-2"},
		{"3.14e2", "314e0"},
		{"314e-2", "314e-2"},
		{"3140e-3", "314e-2"},
		{"1e5", "1e5"},
		{"1E5", "1e5"},
		{"1e+5", "1e5"},
		{"1E+05", "1e5"},
		{"1E-05", "1e-5"},
		{"1e0", "1e0"},
		{"1e-0", "1e0"},
		{"1e+000", "1e0"},
		{"1e00000000000000000000000000000012", "1e12"},
		{"1e-00000000000000000000000000000012", "1e-12"},
		{"123456789012345678901234567890", "12345678901234567890123456789e1"},
		{"0.123456789012345678901234567891", "123456789012345678901234567891e-30"},
		{"18446744073709551616.5", "184467440737095516165e-1"},
	} {
		if text, code := decimals.Read(c.s); text != c.want || code != api.CoOK {
			t.Errorf("%q: %q, %d", c.s, text, code)
		}
	}
}

func TestReadOfNought(t *testing.T) {
	for _, sign := range []string{"", "-"} {
		for _, s := range []string{"0", "0.0", "0.000"} {
			for _, power := range []string{"", "e0", "E-0", "e+00", "e7", "e-7", "e999999999", "e1000000000", "e+1000000000", "e-1000000000", "e-0001000000000"} {
				if text, code := decimals.Read(sign + s + power); text != "0" || code != api.CoOK {
					t.Errorf("%q: %q, %d", sign+s+power, text, code)
				}
			}
			for _, power := range []string{"e1000000001", "E-1000000001", "e+1000000001", "e99999999999999999999", "e-99999999999999999999"} {
				if text, code := decimals.Read(sign + s + power); text != "" || code != api.CoExponent {
					t.Errorf("%q: %q, %d", sign+s+power, text, code)
				}
			}
		}
	}
}

// TestReadOfGreatestExponents: the last ones that may be, written and of the normal form.
func TestReadOfGreatestExponents(t *testing.T) {
	for _, c := range []struct{ s, want string }{
		{"1e1000000000", "1e1000000000"},
		{"-1E+1000000000", "-1e1000000000"},
		{"1e-1000000000", "1e-1000000000"},
		{"1e0001000000000", "1e1000000000"},
		{"10e999999999", "1e1000000000"},
		{"100e999999998", "1e1000000000"},
		{"-10e999999999", "-1e1000000000"},
		{"12.00e1000000000", "12e1000000000"},
		{"0.1e-999999999", "1e-1000000000"},
		{"0.10e-999999999", "1e-1000000000"},
		{"1.5e-999999999", "15e-1000000000"},
		{"0.1e1000000000", "1e999999999"},
		{"0.01e1000000000", "1e999999998"},
		{"10e-1000000000", "1e-999999999"},
		{"1.0e-1000000000", "1e-1000000000"},
		{"123456789e1000000000", "123456789e1000000000"},
	} {
		if text, code := decimals.Read(c.s); text != c.want || code != api.CoOK {
			t.Errorf("%q: %q, %d", c.s, text, code)
		}
	}
}

// TestReadOfTooGreatExponents: one more than may be; the written one counts also where the normal form's is less, and turned round.
func TestReadOfTooGreatExponents(t *testing.T) {
	for _, s := range []string{
		"1e1000000001",
		"1e-1000000001",
		"-1E+1000000001",
		"1e0001000000001",
		"10e1000000000",
		"100e999999999",
		"-10e1000000000",
		"0.1e-1000000000",
		"0.01e-999999999",
		"1.5e-1000000000",
		"0.1e1000000001",
		"10e-1000000001",
		"1e2147483648",
		"1e4294967296",
		"1e4294967301",
		"1e9223372036854775807",
		"1e9223372036854775808",
		"1e-9223372036854775808",
		"1e18446744073709551616",
		"1e18446744073709551621",
		"1e-18446744073709551621",
		"1e" + strings.Repeat("9", 10000),
	} {
		if text, code := decimals.Read(s); text != "" || code != api.CoExponent {
			t.Errorf("%q: %q, %d", s, text, code)
		}
	}
}

func TestReadOfNoNumbers(t *testing.T) {
	for _, s := range []string{
		"", "-", "--1", "-+1", "+", "+1", "+0", ".", "-.", "e", "e5", "E", "-e5",
		"01", "-01", "00", "-00", "00.5", "007e1", "0123456789",
		"1.", "0.", "-1.", "1.e5", "1.-5", "1.+5", "1..5", "1.5.", "1.5.5", ".1", "-.1", ".e1",
		"1e", "1E", "1e+", "1e-", "1.5e", "1.5e-", "1e+-5", "1e--5", "1e5.", "1e5.0", "1e.5", "1e5e5", "1ee5", "1e 5",
		"1 ", " 1", "1\n", "1\x00", "\x001", "1a", "1,", "1-", "1+", "1-2", "1_0", "0x1", "0b1", "1f", "Infinity", "-Infinity", "NaN", "nan", "null", "1/2",
		"\xFF", "1\xFF", "\xFF1", "1\x80", "1.\xC3", "1.5\xC3", "1e\xC3", "1e5\xC3", "-\xE2\x82", "1é", "\uFEFF1", "\uFF11", "1\u0660", "1.\u0660", "1e\u0660", "\u22121",
		"1e1000000001x", "1e1000000001.", "01e1000000001", "1.e1000000001", "0x1e1000000001",
	} {
		if text, code := decimals.Read(s); text != "" || code != api.CoSyntax {
			t.Errorf("%q: %q, %d", s, text, code)
		}
	}
}

// TestReadOfEveryByte puts each byte ahead of, within, and behind a number.
func TestReadOfEveryByte(t *testing.T) {
	for c := range 256 {
		b := string([]byte{byte(c)})
		for _, s := range []string{b, b + "12", "1" + b + "2", "12" + b, "1." + b, "1.5" + b, "1e" + b, "1e5" + b, "1e-" + b, "1e" + b + "5"} {
			text, code := decimals.Read(s)
			if ok := number.MatchString(s); ok != (code == api.CoOK) || !ok && code != api.CoSyntax || ok == (text == "") {
				t.Errorf("%q: %q, %d", s, text, code)
			}
		}
	}
}

// TestReadOfEveryText: of each short text, is it a number's, and is the answer of that value, in the one form that may be?
func TestReadOfEveryText(t *testing.T) {
	everyText("-+015.eE ", 6, func(s string) {
		text, code := decimals.Read(s)
		if !number.MatchString(s) {
			if text != "" || code != api.CoSyntax {
				t.Fatalf("%q: %q, %d", s, text, code)
			}
			return
		}
		if code != api.CoOK || !normalForm.MatchString(text) || value(t, text).Cmp(value(t, s)) != 0 {
			t.Fatalf("%q: %q, %d", s, text, code)
		}
	})
}

func TestReadOfLongTexts(t *testing.T) {
	const many = 1000000
	noughts := strings.Repeat("0", many)
	for _, c := range []struct{ s, want string }{
		{"1" + noughts, "1e1000000"},
		{"-1" + noughts + ".0", "-1e1000000"},
		{"0." + noughts + "1", "1e-1000001"},
		{"1" + noughts + "e-1000000", "1e0"},
		{"0." + noughts + "1e1000001", "1e0"},
		{"1." + noughts, "1e0"},
		{"0." + noughts, "0"},
		{"7e" + noughts, "7e0"},
		{"7e-" + noughts + "8", "7e-8"},
		{"1" + noughts + "1", "1" + noughts + "1e0"},
		{"1" + noughts + "e999000000", "1e1000000000"},
		{"0." + noughts + "1e-998999999", "1e-1000000000"},
	} {
		if text, code := decimals.Read(c.s); text != c.want || code != api.CoOK {
			t.Errorf("%.20q of %d bytes: %.20q, %d", c.s, len(c.s), text, code)
		}
	}
	for _, s := range []string{"1" + noughts + "e999000001", "0." + noughts + "1e-999000000"} {
		if text, code := decimals.Read(s); text != "" || code != api.CoExponent {
			t.Errorf("%.20q of %d bytes: %.20q, %d", s, len(s), text, code)
		}
	}
	for _, s := range []string{noughts, noughts + "1", "1" + noughts + ".", "1e" + noughts + "-"} {
		if text, code := decimals.Read(s); text != "" || code != api.CoSyntax {
			t.Errorf("%.20q of %d bytes: %.20q, %d", s, len(s), text, code)
		}
	}
}

// P2.2

func TestParts(t *testing.T) {
	for _, c := range []struct {
		text     string
		minus    bool
		digits   string
		exponent int
	}{
		{"0", false, "0", 0},
		{"-12e-1", true, "12", -1},
		{"12e-1", false, "12", -1},
		{"1e0", false, "1", 0},
		{"-1e0", true, "1", 0},
		{"1001e7", false, "1001", 7},
		{"5e10", false, "5", 10},
		{"-5e-10", true, "5", -10},
		{"1e1000000000", false, "1", 1000000000},
		{"1e-1000000000", false, "1", -1000000000},
		{"-12e1000000000", true, "12", 1000000000},
		{"-12e-1000000000", true, "12", -1000000000},
		{"123456789012345678901e-1", false, "123456789012345678901", -1},
	} {
		minus, digits, exponent, ok := decimals.Parts(c.text)
		if minus != c.minus || digits != c.digits || exponent != c.exponent || !ok {
			t.Errorf("%q: %v, %q, %d, %v", c.text, minus, digits, exponent, ok)
		}
	}
}

// noForms are texts that are no normal form, or whose exponent is too great.
var noForms = []string{
	"", "-", "-0", "00", "0.0", "0e0", "-0e0", "0e5", "e", "e5", "-e5",
	"5", "-5", "12", "50e0", "100e-1", "05e0", "-05e0", "5.0e0", "1.5e0", ".5e0",
	"5e", "5e-", "5e+1", "5e+0", "5e-0", "5E1", "5e00", "5e01", "5e-01", "+5e0", "--5e0",
	"5e0 ", " 5e0", "5e0x", "5e0.", "5e0e0", "5e1\x00", "5e\xFF", "5\xFFe0", "x", "NaN", "\xFF",
	"1e1000000001", "1e-1000000001", "-1e1000000001", "-12e-1000000001", "1e2147483648", "1e18446744073709551616", "1e-18446744073709551617",
}

func TestPartsOfOthers(t *testing.T) {
	for _, s := range noForms {
		if minus, digits, exponent, ok := decimals.Parts(s); minus || digits != "" || exponent != 0 || ok {
			t.Errorf("%q: %v, %q, %d, %v", s, minus, digits, exponent, ok)
		}
	}
}

// TestPartsOfEveryText: of each short text, is it a normal form, and do its parts make it again?
func TestPartsOfEveryText(t *testing.T) {
	everyText("-+015.eE ", 6, func(s string) {
		minus, digits, exponent, ok := decimals.Parts(s)
		if ok != normalForm.MatchString(s) {
			t.Fatalf("%q: %v", s, ok)
		}
		again := ""
		if minus {
			again = "-"
		}
		again += digits
		if ok && s != "0" {
			again += "e" + big.NewInt(int64(exponent)).String()
		}
		if ok && again != s || !ok && (again != "" || exponent != 0) {
			t.Fatalf("%q: %v, %q, %d", s, minus, digits, exponent)
		}
	})
}

// P2.3

// order has normal forms, each one less than those behind it.
var order = []string{
	"-123e1000000000", "-12e1000000000", "-1e1000000000", "-9e999999999", "-1e999999999",
	"-1e21", "-999999999999999999999e0", "-15e2", "-101e0", "-1e2", "-99e0", "-1e1", "-99e-1", "-5e0",
	"-2e0", "-123e-2", "-12e-1", "-11e-1", "-101e-2", "-1e0", "-99e-2", "-9e-1", "-1e-1", "-1e-9",
	"-12e-1000000000", "-1e-999999999", "-2e-1000000000", "-1e-1000000000",
	"0",
	"1e-1000000000", "2e-1000000000", "1e-999999999", "12e-1000000000",
	"1e-9", "1e-1", "9e-1", "99e-2", "1e0", "101e-2", "11e-1", "12e-1", "123e-2", "2e0",
	"5e0", "99e-1", "1e1", "99e0", "1e2", "101e0", "15e2", "999999999999999999999e0", "1e21",
	"1e999999999", "9e999999999", "1e1000000000", "12e1000000000", "123e1000000000",
}

func TestLess(t *testing.T) {
	for i, a := range order {
		for k, b := range order {
			if got := decimals.Less(a, b); got != (i < k) {
				t.Errorf("%q, %q: %v", a, b, got)
			}
		}
	}
}

func TestLessOfOthers(t *testing.T) {
	for _, s := range noForms {
		for _, a := range slices.Concat(order, noForms) {
			if decimals.Less(s, a) || decimals.Less(a, s) {
				t.Errorf("%q, %q", s, a)
			}
		}
	}
}

// TestLessOfEveryPair holds what Less tells of short normal forms against the library's order.
func TestLessOfEveryPair(t *testing.T) {
	var forms []string
	everyText("-015e", 5, func(s string) {
		if normalForm.MatchString(s) && len(value(t, s).String()) < 40 {
			forms = append(forms, s)
		}
	})
	values := make([]*big.Rat, len(forms))
	for i, s := range forms {
		values[i] = value(t, s)
	}
	for i, a := range forms {
		for k, b := range forms {
			if got := decimals.Less(a, b); got != (values[i].Cmp(values[k]) < 0) {
				t.Fatalf("%q, %q: %v", a, b, got)
			}
		}
	}
}

// P2.4

func TestFormOfForm(t *testing.T) {
	for _, s := range order {
		if text, code := decimals.Read(s); text != s || code != api.CoOK || !number.MatchString(s) {
			t.Errorf("%q: %q, %d", s, text, code)
		}
	}
	everyText("-05.e+", 6, func(s string) {
		text, code := decimals.Read(s)
		if code != api.CoOK {
			return
		}
		if again, code := decimals.Read(text); again != text || code != api.CoOK {
			t.Fatalf("%q: %q, then %q, %d", s, text, again, code)
		}
		if _, _, _, ok := decimals.Parts(text); !ok {
			t.Fatalf("%q: %q has no parts", s, text)
		}
	})
}

// TestOneFormOneValue: texts have one normal form just if they have one value, and else one of them is less.
func TestOneFormOneValue(t *testing.T) {
	texts := []string{
		"0", "-0", "0.0", "0e7", "-0.00e-7", "1", "1.0", "10e-1", "0.1e1", "1e0", "100e-2", "-1", "-1.0", "-10e-1",
		"10", "1e1", "10.0", "0.01e3", "1.01", "101e-2", "1.1", "11e-1", "1.10", "0.011e2", "12", "12.0", "120e-1", "-12", "-1.2e1",
		"1e20", "100000000000000000000", "100000000000000000001", "99999999999999999999.9", "0.1", "1e-1", "0.10000000000000000000000001",
		"9007199254740992", "9007199254740993", "9007199254740993.0", "5e-324", "4e-324", "1e309", "1e310",
	}
	for _, s := range texts {
		for _, z := range texts {
			a, b := read(t, s), read(t, z)
			held := value(t, s).Cmp(value(t, z))
			if (a == b) != (held == 0) || decimals.Less(a, b) != (held < 0) || decimals.Less(b, a) != (held > 0) {
				t.Errorf("%q is %q, %q is %q", s, a, z, b)
			}
		}
	}
}

func read(t *testing.T, s string) string {
	t.Helper()
	text, code := decimals.Read(s)
	if code != api.CoOK {
		t.Fatalf("%q: %d", s, code)
	}
	return text
}
