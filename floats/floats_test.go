package floats_test

import (
	"math/big"
	"regexp"
	"slices"
	"strings"
	"testing"
	"unsafe"

	"inarch/api"
	"inarch/decimals"
	"inarch/floats"
)

// The grammars, as the chapters' words say them, beside the package's own way of going through a text.
var (
	integer    = `(0|[1-9](_?[0-9])*)`
	digits     = `[0-9](_?[0-9])*`
	special    = regexp.MustCompile(`^[+-]?(inf|nan)$`)
	decimal    = regexp.MustCompile(`^[+-]?` + integer + `(\.` + digits + `([eE][+-]?` + digits + `)?|[eE][+-]?` + digits + `)$`)
	normalForm = regexp.MustCompile(`^(0|-?[1-9]([0-9]*[1-9])?e(0|-?[1-9][0-9]*)|-?inf|nan)$`)
	jsonFloat  = regexp.MustCompile(`^-?(0|[1-9][0-9]*)(\.[0-9]+([eE][+-]?[0-9]+)?|[eE][+-]?[0-9]+)$`)
)

// value of a decimal's text, by the library.
func value(t *testing.T, s string) *big.Rat {
	t.Helper()
	r, ok := new(big.Rat).SetString(strings.ReplaceAll(s, "_", ""))
	if !ok {
		t.Fatalf("%q: no number to the library", s)
	}
	return r
}

// look if a text, of no great exponent, is read as the grammar and the library have it.
func look(t *testing.T, s string) {
	t.Helper()
	text, code := floats.Read(s)
	switch {
	case decimal.MatchString(s):
		if code != api.CoOK || !normalForm.MatchString(text) || strings.Contains(text, "n") || value(t, text).Cmp(value(t, s)) != 0 {
			t.Fatalf("%q: %q, %d", s, text, code)
		}
	case special.MatchString(s):
		want := strings.TrimPrefix(s, "+")
		if strings.HasSuffix(s, "nan") {
			want = "nan"
		}
		if text != want || code != api.CoOK {
			t.Fatalf("%q: %q, %d", s, text, code)
		}
	default:
		if text != "" || code != api.CoSyntax {
			t.Fatalf("%q: %q, %d", s, text, code)
		}
	}
}

// everyText hands on all texts of up to so many of the letters.
func everyText(letters string, most int, look func(s string)) {
	look("")
	var grow func(s string)
	grow = func(s string) {
		if len(s) == most {
			return
		}
		for i := range len(letters) {
			more := s + letters[i:i+1]
			look(more)
			grow(more)
		}
	}
	grow("")
}

// P6.1

func TestReadOfFloats(t *testing.T) {
	for _, c := range []struct{ s, want string }{
		{"-3.1_4", "-314e-2"},
		{"5e+22", "5e22"},
		{"6.626e-34", "6626e-37"},
		{"+1.0", "1e0"},
		{"1.0", "1e0"},
		{"-1.0", "-1e0"},
		{"3.1415", "31415e-4"},
		{"-0.01", "-1e-2"},
		{"1e06", "1e6"},
		{"-2E-2", "-2e-2"},
		{"+2E+02", "2e2"},
		{"+6.02E+2_3", "602e21"},
		{"224_617.445_991_228", "224617445991228e-9"},
		{"1_0.0_1e1_0", "1001e8"},
		{"1e0_1", "1e1"},
		{"1e-0_0_1", "1e-1"},
		{"1e00", "1e0"},
		{"1e-0", "1e0"},
		{"0.5", "5e-1"},
		{"0.0_5", "5e-2"},
		{"-0.50e1", "-5e0"},
		{"1200.0", "12e2"},
		{"1_200e0", "12e2"},
		{"1.00000", "1e0"},
		{"10.10", "101e-1"},
		{"9.9", "99e-1"},
		{"0e1", "0"},
		{"1.5e300", "15e299"},
		{"1e309", "1e309"},
		{"4.9e-325", "49e-326"},
		{"9007199254740993.0", "9007199254740993e0"},
		{"0.1000000000000000000000000000000001", "1000000000000000000000000000000001e-34"},
	} {
		if text, code := floats.Read(c.s); text != c.want || code != api.CoOK {
			t.Errorf("%q: %q, %d", c.s, text, code)
		}
	}
}

func TestReadOfSpecialValues(t *testing.T) {
	for _, c := range []struct{ s, want string }{
		{"inf", "inf"}, {"+inf", "inf"}, {"-inf", "-inf"},
		{"nan", "nan"}, {"+nan", "nan"}, {"-nan", "nan"},
	} {
		if text, code := floats.Read(c.s); text != c.want || code != api.CoOK {
			t.Errorf("%q: %q, %d", c.s, text, code)
		}
	}
}

// TestReadOfNought: of either sign, in whatever form; but an exponent that is too great is one of nought, too.
func TestReadOfNought(t *testing.T) {
	for _, sign := range []string{"", "+", "-"} {
		for _, s := range []string{"0.0", "0.00_0", "0e0", "0e5", "0E-5", "0e+0_0", "0.0e7", "0.0e1000000000", "0e-1_000_000_000"} {
			if text, code := floats.Read(sign + s); text != "0" || code != api.CoOK {
				t.Errorf("%q: %q, %d", sign+s, text, code)
			}
		}
		for _, s := range []string{"0e1000000001", "0.0E-1_000_000_001", "0.0e+99999999999999999999"} {
			if text, code := floats.Read(sign + s); text != "" || code != api.CoExponent {
				t.Errorf("%q: %q, %d", sign+s, text, code)
			}
		}
	}
}

// TestReadOfGreatIntegers: an integer ahead of the point, or the exponent, may be beyond 64 bits.
func TestReadOfGreatIntegers(t *testing.T) {
	for _, c := range []struct{ s, want string }{
		{"9223372036854775807.5", "92233720368547758075e-1"},
		{"9223372036854775808.5", "92233720368547758085e-1"},
		{"-9223372036854775809.5", "-92233720368547758095e-1"},
		{"+18446744073709551617e0", "18446744073709551617e0"},
		{"-18446744073709551617e-1", "-18446744073709551617e-1"},
		{"99999999999999999999.5", "999999999999999999995e-1"},
		{"99_999_999_999_999_999_999_999e-3", "99999999999999999999999e-3"},
		{"1_000_000_000_000_000_000_000.0", "1e21"},
	} {
		if text, code := floats.Read(c.s); text != c.want || code != api.CoOK {
			t.Errorf("%q: %q, %d", c.s, text, code)
		}
	}
}

// TestReadOfGreatestExponents: the last ones that may be, written and of the normal form.
func TestReadOfGreatestExponents(t *testing.T) {
	for _, c := range []struct{ s, want string }{
		{"1e1000000000", "1e1000000000"},
		{"1e1_000_000_000", "1e1000000000"},
		{"-1E+0001000000000", "-1e1000000000"},
		{"1e-1000000000", "1e-1000000000"},
		{"1.5e-999999999", "15e-1000000000"},
		{"10e999999999", "1e1000000000"},
		{"1_0.0e999_999_999", "1e1000000000"},
		{"0.1e1000000000", "1e999999999"},
		{"10e-1000000000", "1e-999999999"},
		{"1.0e-1000000000", "1e-1000000000"},
	} {
		if text, code := floats.Read(c.s); text != c.want || code != api.CoOK {
			t.Errorf("%q: %q, %d", c.s, text, code)
		}
	}
}

// TestReadOfTooGreatExponents: one more than may be; the written one counts also where the normal form's is less, and turned round.
func TestReadOfTooGreatExponents(t *testing.T) {
	for _, s := range []string{
		"1e1000000001", "+1e1000000001", "1e-1000000001", "-1E+1000000001", "1e1_000_000_001", "1e0001000000001",
		"10e1000000000", "1_00e999999999", "-10.0e1000000000", "1.5e-1000000000", "0.1e-1000000000", "0.0_1e-999999999",
		"0.1e1000000001", "10e-1000000001",
		"1e2147483648", "1e4294967297", "1e9223372036854775808", "1e18446744073709551617", "1e-18446744073709551617",
		"99999999999999999999e1000000001", "1e" + strings.Repeat("9", 10000), "1e1" + strings.Repeat("_0", 10000),
	} {
		if text, code := floats.Read(s); text != "" || code != api.CoExponent {
			t.Errorf("%.40q: %q, %d", s, text, code)
		}
	}
}

func TestReadOfNoFloats(t *testing.T) {
	for _, s := range []string{
		"", "+", "-", ".", "e", "E", "_", "+.", "-e", ".e", "++", "+-",
		"1", "0", "+1", "-1", "12", "1_000", "9223372036854775807", "9223372036854775808", "99999999999999999999999999",
		"1.", "0.", "-1.", "1_000.", "3.e+20", "1.e5", "1._", "1.+5", "1.-5", "1. 5", "1..5", "1.5.", "1.2.3", "1.e",
		".5", "+.5", "-.5", ".5e1", ".e1", "_.5", "e5", "E5", "-e5", "+e5",
		"1._5", "1_.5", "1.5_", "1.5__1", "_1.5", "-_1.5", "+_1.5", "1__0.5", "1_e5", "1.5_e5", "1e_5", "1e5_", "1e5__1", "1e+_5", "1e-_5", "1e_+5", "1e-5_", "1_._5", "1_e_5",
		"03.14", "00.5", "-03.14", "+00.0", "0_3.14", "0_0.0", "01e5", "00e0", "0_1e5", "-0_0e0",
		"1e", "1E", "1e+", "1e-", "1.5e", "1.5E-", "1e++5", "1e+-5", "1e--5", "1e5.0", "1e5.", "1e.5", "1ee5", "1e5e5", "1e5E5", "1eE5", "1e5+", "1e 5",
		"+-1.5", "-+1.5", "++1.5", "--1.5", "1.5-", "1.5+", "1-.5", "1+e5", "- 1.5",
		"0x1.0", "0xe1", "0x1e1", "0xee1", "0o1.0", "0o7e1", "0b1.0", "0b1e5", "0x1p1", "0x.8", "0x_1.0", "0X1.0", "-0x1.0", "+0b1e5", "0b0.0", "0o0e0",
		"Inf", "INF", "infinity", "Infinity", "-Infinity", "NaN", "Nan", "NAN", "+-inf", "-+inf", "--inf", "++inf", "--nan", "+-nan", "inf.0", "inf0", "infe1", "inf.", "0inf", "1inf", "nan0", "nane1", "in", "na", "i", "n", "-in", "+na", "_inf", "inf_", "i_nf", "inf ", " nan", "- inf", "infnan", "infinf", "inf-", "nan\x00",
		" 1.0", "1.0 ", "\t1.0", "1.0\n", "\n", "\x00", "1.0\x00", "\x001.0", "1.0f", "1.0d", "f1.0", "a", "1,5", "1/2", "1.0#", "1'0.0", "true", "1.0e5x",
		"\xFF", "1\xFF.0", "1.\xFF", "1.0\xFF", "\xFF1.0", "1e\xFF", "1e5\x80", "1.\xC3", "\uFEFF1.0", "\uFF11.0", "1.\u0660", "1e\u0660", "\u22121.0", "1.0\uFF3F0", "1\uFF0E0", "1\u00A0.0", "\u221E",
		"1e1000000001x", "1e1000000001.", "1e1000000001_", "01e1000000001", "1.e1000000001", "0x1e1000000001", "1_e1000000001", "1e_1000000001", "-+1e1000000001", "1e1__000000001",
	} {
		if text, code := floats.Read(s); text != "" || code != api.CoSyntax {
			t.Errorf("%q: %q, %d", s, text, code)
		}
	}
}

// TestReadOfEveryByte puts each byte ahead of, within, and behind floats.
func TestReadOfEveryByte(t *testing.T) {
	for c := range 256 {
		b := string([]byte{byte(c)})
		for _, s := range []string{
			b, b + "1.5", "1" + b + "5", "1" + b + "2.5", "1" + b + ".5", "1." + b, "1." + b + "5", "1.5" + b, "1.5" + b + "5", "0" + b + "5", "0" + b + "1.5",
			"1e" + b, "1e" + b + "5", "1e5" + b, "1e5" + b + "5", "1e-" + b + "5", "1.5" + b + "-5", "+" + b + "1.5", "-1" + b + "5",
			b + "inf", "inf" + b, "i" + b + "f", b + "nan", "na" + b, "-" + b + "nan", "+" + b + "inf",
		} {
			look(t, s)
		}
	}
}

// TestReadOfEveryText: of each short text, is it a float's, and is the answer of that value, in the one form that may be?
func TestReadOfEveryText(t *testing.T) {
	everyText("-+_05.e", 6, func(s string) { look(t, s) })
	everyText("-+_019.eEx ", 5, func(s string) { look(t, s) })
	everyText("+-infaIN0.", 5, func(s string) { look(t, s) })
	everyText("_05", 4, func(s string) {
		for _, ahead := range []string{"0.", "-1_0.", "1e", "2E+", "1.5e-", "0x", "+", "1."} {
			look(t, ahead+s)
			look(t, ahead+s+"e1")
			look(t, ahead+s+".1")
		}
	})
}

func TestReadOfLongTexts(t *testing.T) {
	const many = 1000000
	noughts := strings.Repeat("0", many)
	for _, c := range []struct{ s, want string }{
		{"1" + noughts + ".0", "1e1000000"},
		{"-1" + strings.Repeat("_0", many) + "e0", "-1e1000000"},
		{"0." + noughts + "1", "1e-1000001"},
		{"0.0" + strings.Repeat("_0", many-1) + "_1", "1e-1000001"},
		{"1" + noughts + "e-1000000", "1e0"},
		{"7e" + noughts + "5", "7e5"},
		{"7e-0" + strings.Repeat("_0", many) + "_5", "7e-5"},
		{"1" + noughts + "e999000000", "1e1000000000"},
	} {
		if text, code := floats.Read(c.s); text != c.want || code != api.CoOK {
			t.Errorf("%.20q of %d bytes: %.20q, %d", c.s, len(c.s), text, code)
		}
	}
	if text, code := floats.Read("1" + noughts + "e999000001"); text != "" || code != api.CoExponent {
		t.Errorf("beyond: %.20q, %d", text, code)
	}
	for _, s := range []string{
		noughts, noughts + ".0", "1" + noughts, "1" + noughts + ".", "1." + noughts + "_", "1e" + noughts + "-", "1e5" + strings.Repeat("_", many),
		strings.Repeat(".", many), strings.Repeat("e", many), strings.Repeat("_", many), strings.Repeat("-", many), strings.Repeat("inf", many),
	} {
		if text, code := floats.Read(s); text != "" || code != api.CoSyntax {
			t.Errorf("%.20q of %d bytes: %.20q, %d", s, len(s), text, code)
		}
	}
}

// P6.2

// order has normal forms, each one ahead of those behind it.
var order = []string{
	"-inf",
	"-12e1000000000", "-1e1000000000", "-9e999999999", "-1e21", "-999999999999999999999e0", "-101e0", "-1e2", "-99e0", "-1e1",
	"-5e0", "-15e-1", "-12e-1", "-1e0", "-99e-2", "-1e-1", "-1e-5", "-2e-1000000000", "-1e-1000000000",
	"0",
	"1e-1000000000", "2e-1000000000", "1e-5", "1e-1", "5e-1", "99e-2", "1e0", "12e-1", "15e-1", "5e0",
	"1e1", "12e0", "99e0", "1e2", "101e0", "999999999999999999999e0", "1e21", "9e999999999", "1e1000000000", "12e1000000000",
	"inf",
	"nan",
}

// noForms are texts that are no normal form, or whose exponent is too great.
var noForms = []string{
	"", "+", "-", "-0", "+0", "00", "0.0", "0e0", "-0e0", "1", "-1", "12", "1.0", "1.5", "-1.5e0", "10e0", "100e-1", "01e0", "1_0e0", "1e1_0", "1e+5", "1E5", "1e05", "1e-0", "1e", "e1", "+1e0", "--1e0", "1e0 ", " 1e0", "1e0\x00",
	"+inf", "--inf", "+nan", "-nan", "Inf", "INF", "NaN", "infinity", "in", "na", "inf ", " inf", "nan\x00", "-inf0", "inf0", "nane0", "-", "x", "\xFF", "inf\xFF",
	"1e1000000001", "1e-1000000001", "-1e1000000001", "1e2147483648", "1e18446744073709551616", "1e-18446744073709551617",
}

func TestIs(t *testing.T) {
	for _, s := range order {
		if !floats.Is(s) {
			t.Errorf("%q", s)
		}
	}
	for _, s := range noForms {
		if floats.Is(s) {
			t.Errorf("%q", s)
		}
	}
}

func TestIsOfEveryText(t *testing.T) {
	is := func(s string) {
		if got := floats.Is(s); got != normalForm.MatchString(s) {
			t.Fatalf("%q: %v", s, got)
		}
	}
	everyText("-+_015.e", 6, is)
	everyText("+-infaIN0e ", 5, is)
	for c := range 256 {
		b := string([]byte{byte(c)})
		for _, s := range []string{b, b + "inf", "inf" + b, b + "nan", "nan" + b, b + "5e1", "5e1" + b, "5" + b + "1", "5e" + b + "1"} {
			is(s)
		}
	}
}

func TestLess(t *testing.T) {
	for i, a := range order {
		for k, b := range order {
			if got := floats.Less(a, b); got != (i < k) {
				t.Errorf("%q, %q: %v", a, b, got)
			}
		}
	}
}

func TestLessOfOthers(t *testing.T) {
	for _, s := range noForms {
		for _, a := range slices.Concat(order, noForms) {
			if floats.Less(s, a) || floats.Less(a, s) {
				t.Errorf("%q, %q", s, a)
			}
		}
	}
}

// TestLessOfEveryPair holds what Less tells of short texts against the library's order of decimals, with special values around them.
func TestLessOfEveryPair(t *testing.T) {
	texts := []string{"-inf", "inf", "nan", "+inf", "-nan"}
	everyText("-+015e", 4, func(s string) { texts = append(texts, s) })
	rank := func(s string) int { return slices.Index([]string{"-inf", "inf", "nan"}, s) }
	ahead := func(a, b string) bool {
		switch x, y := rank(a), rank(b); {
		case x < 0 && y < 0:
			return value(t, a).Cmp(value(t, b)) < 0
		case x < 0:
			return y > 0
		case y < 0:
			return x == 0
		default:
			return x < y
		}
	}
	var forms []string
	for _, s := range texts {
		if normalForm.MatchString(s) {
			forms = append(forms, s)
		}
	}
	for _, a := range forms {
		for _, b := range texts {
			is := normalForm.MatchString(b)
			if floats.Less(a, b) != (is && ahead(a, b)) || floats.Less(b, a) != (is && ahead(b, a)) {
				t.Fatalf("%q, %q", a, b)
			}
		}
	}
}

// P6.3

// TestReadAsJSON: what JSON has as a number with a point or an exponent has the same answer here, a code that tells of its exponent too.
func TestReadAsJSON(t *testing.T) {
	same := func(s string) {
		want, wantCode := decimals.Read(s)
		if text, code := floats.Read(s); text != want || code != wantCode || text != "" && !floats.Is(text) {
			t.Fatalf("%q: %q, %d, not %q, %d", s, text, code, want, wantCode)
		}
	}
	met := 0
	everyText("-+015.eE", 6, func(s string) {
		if jsonFloat.MatchString(s) {
			met++
			same(s)
		}
	})
	if met < 5000 {
		t.Errorf("only %d texts", met)
	}
	for _, s := range []string{
		"1e1000000000", "-1e-1000000000", "10e999999999", "1.5e-999999999", "123456789012345678901234567890.5", "0.0e-1000000000", "-0.0", "5e-324",
		"1e1000000001", "1.5e-1000000000", "10e1000000000", "0e1000000001", "10e-1000000001", "1e99999999999999999999",
	} {
		same(s)
	}
}

// TestReadOfForms: a normal form is read as itself, but nought's, which has no point and no exponent.
func TestReadOfForms(t *testing.T) {
	for _, s := range order {
		text, code := floats.Read(s)
		if s == "0" && (text != "" || code != api.CoSyntax) || s != "0" && (text != s || code != api.CoOK) {
			t.Errorf("%q: %q, %d", s, text, code)
		}
	}
	everyText("-_05.e", 6, func(s string) {
		if text, code := floats.Read(s); (code == api.CoOK) != floats.Is(text) {
			t.Fatalf("%q: %q, %d", s, text, code)
		}
	})
}

// TestOneFormOneValue: floats have one normal form just if they have one value, and else one of them is ahead.
func TestOneFormOneValue(t *testing.T) {
	texts := []string{
		"0.0", "-0.0", "+0e7", "0.0_0e-7", "1.0", "+1.0", "1e0", "10e-1", "0.1e1", "1_00e-2", "-1.0", "-1e0", "-10.0e-1",
		"10.0", "1e1", "1_0.0", "0.01e3", "1.01", "101e-2", "1.1", "1.10", "1.1_0", "0.011e2", "-12.0", "-1.2e1",
		"1e20", "100_000_000_000_000_000_000.0", "100000000000000000001e0", "99999999999999999999.9", "0.1", "0.10000000000000000000000001",
		"9007199254740992.0", "9007199254740993.0", "5e-324", "4e-324", "1e309", "1e310",
	}
	for _, s := range texts {
		for _, z := range texts {
			a, _ := floats.Read(s)
			b, _ := floats.Read(z)
			held := value(t, s).Cmp(value(t, z))
			if a == "" || (a == b) != (held == 0) || floats.Less(a, b) != (held < 0) || floats.Less(b, a) != (held > 0) {
				t.Errorf("%q is %q, %q is %q", s, a, z, b)
			}
		}
	}
}

// R4

// TestAnswersAreTheirOwn: no answer stands in the room of what was handed in.
func TestAnswersAreTheirOwn(t *testing.T) {
	for _, s := range order {
		s = strings.Clone(s)
		text, code := floats.Read(s)
		if code == api.CoOK && (text != s || unsafe.StringData(text) == unsafe.StringData(s)) {
			t.Errorf("%q: %q", s, text)
		}
	}
}
