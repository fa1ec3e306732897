package ints_test

import (
	"cmp"
	"fmt"
	"math"
	"math/big"
	"regexp"
	"slices"
	"strconv"
	"strings"
	"testing"
	"unsafe"

	"inarch/api"
	"inarch/ints"
)

// The grammars, as the chapter's words say them, beside the package's own way of going through a text.
var (
	integer    = regexp.MustCompile(`^([+-]?(0|[1-9](_?[0-9])*)|0x[0-9a-fA-F](_?[0-9a-fA-F])*|0o[0-7](_?[0-7])*|0b[01](_?[01])*)$`)
	normalForm = regexp.MustCompile(`^(0|-?[1-9][0-9]*)$`)
)

// The bounds of values within 64 bits.
const (
	least    = "-9223372036854775808"
	greatest = "9223372036854775807"
)

// radixes, by their prefixes.
var radixes = []struct {
	prefix string
	base   int
}{{"0x", 16}, {"0o", 8}, {"0b", 2}}

// value of an integer's text, by the library.
func value(t *testing.T, s string) *big.Int {
	t.Helper()
	digits, base := strings.ReplaceAll(s, "_", ""), 10
	for _, r := range radixes {
		if rest, ok := strings.CutPrefix(digits, r.prefix); ok {
			digits, base = rest, r.base
			break
		}
	}
	n, ok := new(big.Int).SetString(digits, base)
	if !ok {
		t.Fatalf("%q: no integer to the library", s)
	}
	return n
}

// look if a text is read as the grammar and the library have it.
func look(t *testing.T, s string) {
	t.Helper()
	want, wantCode := "", api.CoSyntax
	if integer.MatchString(s) {
		n := value(t, s)
		want, wantCode = n.String(), api.CoOK
		if !n.IsInt64() {
			want, wantCode = "", api.CoInt
		}
	}
	if text, code := ints.Read(s); text != want || code != wantCode {
		t.Fatalf("%q: %q, %d, not %q, %d", s, text, code, want, wantCode)
	}
}

// everyText hands on all texts of up to so many of the letters.
func everyText(letters string, most int, look func(s string)) {
	look("")
	if most == 0 {
		return
	}
	for i := range len(letters) {
		everyText(letters, most-1, func(s string) {
			look(letters[i:i+1] + s)
		})
	}
}

// P5.1

func TestReadOfIntegers(t *testing.T) {
	for _, c := range []struct{ s, want string }{
		{"+1_000", "1000"},
		{"0xfF", "255"},
		{"-0", "0"},
		{"0o17", "15"},
		{"0", "0"},
		{"+0", "0"},
		{"7", "7"},
		{"+7", "7"},
		{"-7", "-7"},
		{"10", "10"},
		{"-10", "-10"},
		{"1234567890", "1234567890"},
		{"-1234567890", "-1234567890"},
		{"1_2_3_4_5", "12345"},
		{"-1_2_3_4_5", "-12345"},
		{"1_0", "10"},
		{"53_49_221", "5349221"},
		{"1_00_0", "1000"},
		{"0xDEADBEEF", "3735928559"},
		{"0xdeadbeef", "3735928559"},
		{"0xdEaD_bEeF", "3735928559"},
		{"0x0123456789abcdef", "81985529216486895"},
		{"0x01_23_45_67_89_AB_CD_EF", "81985529216486895"},
		{"0xe", "14"},
		{"0xb", "11"},
		{"0x0b1", "177"},
		{"0o01234567", "342391"},
		{"0o7_5_5", "493"},
		{"0b11010110", "214"},
		{"0b1_1", "3"},
		{"0x0_1", "1"},
		{"0o0_7", "7"},
		{"0b0_0_1", "1"},
		{"0x0010", "16"},
		{"0o0010", "8"},
		{"0b0010", "2"},
	} {
		if text, code := ints.Read(c.s); text != c.want || code != api.CoOK {
			t.Errorf("%q: %q, %d", c.s, text, code)
		}
		look(t, c.s)
	}
}

func TestReadOfNought(t *testing.T) {
	for _, s := range []string{"0", "+0", "-0", "0x0", "0o0", "0b0", "0x00", "0o000", "0b0_0", "0x0_00_0"} {
		if text, code := ints.Read(s); text != "0" || code != api.CoOK {
			t.Errorf("%q: %q, %d", s, text, code)
		}
	}
	for _, s := range []string{"00", "+00", "-00", "0_0", "-0_0", "0_", "_0", "+0x0", "-0x0", "-0o0", "-0b0", "--0", "+-0"} {
		if text, code := ints.Read(s); text != "" || code != api.CoSyntax {
			t.Errorf("%q: %q, %d", s, text, code)
		}
	}
}

// TestReadOfBounds: the last values within 64 bits, in each radix, with noughts and `_`.
func TestReadOfBounds(t *testing.T) {
	for _, c := range []struct{ s, want string }{
		{greatest, greatest},
		{"+" + greatest, greatest},
		{"-" + greatest, "-" + greatest},
		{"9_223_372_036_854_775_807", greatest},
		{least, least},
		{"-9_223_372_036_854_775_808", least},
		{"-922337203685477580_8", least},
		{"9223372036854775800", "9223372036854775800"},
		{"-9223372036854775799", "-9223372036854775799"},
		{"0x7fffffffffffffff", greatest},
		{"0x7FFFFFFFFFFFFFFF", greatest},
		{"0x7fff_ffff_ffff_ffff", greatest},
		{"0x00000000000000007fffffffffffffff", greatest},
		{"0o777777777777777777777", greatest},
		{"0o0777777777777777777777", greatest},
		{"0b" + strings.Repeat("1", 63), greatest},
		{"0b0" + strings.Repeat("_1", 63), greatest},
		{"0x4000000000000000", "4611686018427387904"},
	} {
		if text, code := ints.Read(c.s); text != c.want || code != api.CoOK {
			t.Errorf("%q: %q, %d", c.s, text, code)
		}
	}
}

// TestReadBeyondBounds: one more than may be, and what is a small value if it's wrapped round.
func TestReadBeyondBounds(t *testing.T) {
	for _, s := range []string{
		"9223372036854775808",
		"+9223372036854775808",
		"9_223_372_036_854_775_808",
		"-9223372036854775809",
		"-9223372036854775810",
		"9223372036854775810",
		"9223372036854775817",
		"10000000000000000000",
		"-10000000000000000000",
		"18446744073709551615",
		"18446744073709551616",
		"18446744073709551617",
		"-18446744073709551616",
		"-18446744073709551617",
		"27670116110564327424",
		"36893488147419103232",
		"99999999999999999999999999",
		"340282366920938463463374607431768211456",
		"0x8000000000000000",
		"0x8000000000000001",
		"0xffffffffffffffff",
		"0x10000000000000000",
		"0x1_0000_0000_0000_0001",
		"0x00008000000000000000",
		"0o1000000000000000000000",
		"0o1777777777777777777777",
		"0o2000000000000000000000",
		"0o2000000000000000000001",
		"0b1" + strings.Repeat("0", 63),
		"0b" + strings.Repeat("1", 64),
		"0b1" + strings.Repeat("0", 64),
		"0b1" + strings.Repeat("0", 63) + "1",
	} {
		if text, code := ints.Read(s); text != "" || code != api.CoInt {
			t.Errorf("%q: %q, %d", s, text, code)
		}
	}
}

// TestReadAroundPowers: values on both sides of all powers of two up to beyond 64 bits, of the bounds, and of their parts, in each radix.
func TestReadAroundPowers(t *testing.T) {
	var marks []*big.Int
	for power := range uint(70) {
		marks = append(marks, new(big.Int).Lsh(big.NewInt(1), power))
	}
	for _, base := range []int64{2, 8, 10, 16} {
		for _, power := range []uint{63, 64} {
			bound := new(big.Int).Lsh(big.NewInt(1), power)
			marks = append(marks, new(big.Int).Quo(bound, big.NewInt(base)), new(big.Int).Mul(bound, big.NewInt(base)))
		}
	}
	for _, mark := range marks {
		for d := int64(-20); d <= 20; d++ {
			n := new(big.Int).Add(mark, big.NewInt(d))
			look(t, n.String())
			if n.Sign() < 0 {
				continue
			}
			look(t, "+"+n.String())
			look(t, "-"+n.String())
			for _, r := range radixes {
				look(t, r.prefix+n.Text(r.base))
				look(t, r.prefix+"00"+strings.ToUpper(n.Text(r.base)))
			}
		}
	}
}

func TestReadOfNoIntegers(t *testing.T) {
	for _, s := range []string{
		"", "+", "-", "_", "--1", "++1", "+-1", "-+1", "+_1", "-_1", "1-", "1+", "1-2", "- 1", "+ 1",
		"01", "+01", "-01", "00", "007", "0_1", "-0_1", "0_", "_0", "0__1", "09", "08",
		"_1", "1_", "1__0", "1_2__3", "__1", "1__", "-1_", "-_", "_-1", "1_+2",
		"0x", "0o", "0b", "0x_", "0x_1", "0x1_", "0x1__2", "0_x1", "0x__1", "0o_7", "0o7_", "0b_1", "0b1_", "0b1__1",
		"0X1", "0O7", "0B1", "-0x1", "+0x1", "-0o7", "+0o7", "-0b1", "+0b1", "0x-1", "0x+1", "0o-7", "0b+1",
		"0xg", "0x1g", "0xG", "0o8", "0o18", "0o9", "0oa", "0b2", "0b12", "0b9", "0ba", "0x0x1", "0b0b1", "0o0o1", "0x 1", "0x1.0", "0x1p1",
		"x1", "b1", "o7", "1x1", "1b1", "00x1", "0y1", "0d9", "0h1", "0xx1", "0bb1", "a", "f", "ff", "FF", "1a", "1f", "12e",
		"1.0", "1.", ".1", "1e5", "1E5", "0e0", "0.0", "1/2", "1:2", "1'0", "1,0", "1 000", "inf", "nan", "true",
		" 1", "1 ", "\t1", "1\n", "1\r\n", "\n", "\x00", "1\x00", "\x001", "0x1\x00", "1#",
		"\xFF", "1\xFF", "\xFF1", "1\x80", "0x\xFF", "\uFEFF1", "\uFF11", "1\u0660", "\u0660", "\u22121", "0x\uFF21", "1\u00A0", "1\uFF3F0",
		"9223372036854775808_", "_9223372036854775808", "09223372036854775808", "99999999999999999999999999x", "99999999999999999999__9", "-0x8000000000000000", "0x8000000000000000g", "0xffffffffffffffffffffffff_", "0b" + strings.Repeat("1", 64) + "2", "9223372036854775808.0", "+-9223372036854775808",
	} {
		if text, code := ints.Read(s); text != "" || code != api.CoSyntax {
			t.Errorf("%q: %q, %d", s, text, code)
		}
	}
}

// TestReadOfEveryByte puts each byte, and each two bytes, ahead of, within, and behind an integer of each radix.
func TestReadOfEveryByte(t *testing.T) {
	for c := range 256 {
		b := string([]byte{byte(c)})
		for _, s := range []string{b, b + "12", "1" + b + "2", "12" + b, "-" + b, "-" + b + "1", "+1" + b, "0" + b, "0" + b + "1", b + "x1", b + "0x1"} {
			look(t, s)
		}
		for _, r := range radixes {
			for _, s := range []string{r.prefix + b, r.prefix + "1" + b, r.prefix + b + "1", r.prefix + "1" + b + "0", r.prefix + "1_" + b} {
				look(t, s)
			}
		}
		for d := range 256 {
			two := string([]byte{byte(c), byte(d)})
			look(t, two)
			look(t, two+"1")
			look(t, "0x"+two)
		}
	}
}

// TestReadOfEveryText: whatever a few letters make, is it read as the grammar has it?
func TestReadOfEveryText(t *testing.T) {
	everyText("+-_01789aFbBoxXg .", 4, func(s string) { look(t, s) })
	everyText("+-_019x", 6, func(s string) { look(t, s) })
	for _, r := range radixes {
		everyText("_01789afAFg", 4, func(s string) { look(t, r.prefix+s) })
	}
}

func TestReadOfLongTexts(t *testing.T) {
	const many = 1000000
	noughts := strings.Repeat("0", many)
	for _, r := range radixes {
		for _, s := range []string{r.prefix + noughts + "1", r.prefix + strings.Repeat("0_", many) + "1"} {
			if text, code := ints.Read(s); text != "1" || code != api.CoOK {
				t.Errorf("%.20q of %d bytes: %.20q, %d", s, len(s), text, code)
			}
		}
		if text, code := ints.Read(r.prefix + noughts); text != "0" || code != api.CoOK {
			t.Errorf("%s and noughts: %.20q, %d", r.prefix, text, code)
		}
	}
	for _, ahead := range []string{"1", "-1", "+9", "0x1", "0o7", "0b1"} {
		for _, behind := range []string{noughts, strings.Repeat("_1", many)} {
			s := ahead + behind
			if text, code := ints.Read(s); text != "" || code != api.CoInt {
				t.Errorf("%.20q of %d bytes: %.20q, %d", s, len(s), text, code)
			}
			for _, spoilt := range []string{"_", "g", " ", "__1"} {
				if text, code := ints.Read(s + spoilt); text != "" || code != api.CoSyntax {
					t.Errorf("%.20q of %d bytes, then %q: %.20q, %d", s, len(s), spoilt, text, code)
				}
			}
		}
	}
	for _, s := range []string{noughts, noughts + "1", "-" + noughts, strings.Repeat("_", many), strings.Repeat("-", many)} {
		if text, code := ints.Read(s); text != "" || code != api.CoSyntax {
			t.Errorf("%.20q of %d bytes: %.20q, %d", s, len(s), text, code)
		}
	}
}

// P5.2

// order has normal forms, each one less than those behind it.
var order = []string{
	least, "-9223372036854775807", "-9223372036854775799", "-4611686018427387905", "-1000000000000000000", "-999999999999999999",
	"-4294967297", "-4294967296", "-2147483649", "-2147483648", "-100", "-99", "-20", "-19", "-11", "-10", "-9", "-2", "-1",
	"0",
	"1", "2", "9", "10", "11", "19", "20", "99", "100", "2147483647", "2147483648", "4294967295", "4294967296",
	"999999999999999999", "1000000000000000000", "4611686018427387904", "9223372036854775799", "9223372036854775806", greatest,
}

// noForms are texts that are no normal form, or one of a value that is not within 64 bits.
var noForms = []string{
	"", "+", "-", "-0", "+0", "00", "+1", "+10", "01", "-01", "--1", "1_0", "-1_0", "1_", "_1", "0x1", "0o7", "0b1", "0x0", "0xA", "-0x1",
	"1.0", "1e0", "a", "x", "inf", " 1", "1 ", "1\n", "\x001", "1\x00", "\xFF", "\uFF11",
	"+" + greatest, "9_223_372_036_854_775_807", "0x7fffffffffffffff",
	"9223372036854775808", "-9223372036854775809", "10000000000000000000", "18446744073709551616", "18446744073709551617", "-18446744073709551617", "99999999999999999999999999",
}

func TestCmp(t *testing.T) {
	for i, a := range order {
		for k, b := range order {
			if got := ints.Cmp(a, b); got != cmp.Compare(i, k) {
				t.Errorf("%q, %q: %d", a, b, got)
			}
		}
	}
	if ints.Cmp("-5", "3") != -1 || ints.Cmp("3", "-5") != 1 || ints.Cmp("-5", "-5") != 0 {
		t.Error("-5, 3")
	}
}

func TestCmpOfOthers(t *testing.T) {
	for _, s := range noForms {
		for _, a := range slices.Concat(order, noForms) {
			if first, second := ints.Cmp(s, a), ints.Cmp(a, s); first != 0 || second != 0 {
				t.Errorf("%q, %q: %d, %d", s, a, first, second)
			}
		}
	}
}

// TestCmpOfEveryPair holds what Cmp tells of short texts against the library's order of those that are normal forms.
func TestCmpOfEveryPair(t *testing.T) {
	var texts []string
	everyText("+-_0129x", 3, func(s string) { texts = append(texts, s) })
	for _, a := range texts {
		for _, b := range texts {
			want := 0
			if normalForm.MatchString(a) && normalForm.MatchString(b) {
				want = value(t, a).Cmp(value(t, b))
			}
			if got := ints.Cmp(a, b); got != want {
				t.Fatalf("%q, %q: %d", a, b, got)
			}
		}
	}
}

// P5.3

func TestFormOfForm(t *testing.T) {
	for _, s := range order {
		if text, code := ints.Read(s); text != s || code != api.CoOK || !integer.MatchString(s) {
			t.Errorf("%q: %q, %d", s, text, code)
		}
	}
	everyText("+-_01789aFbox", 5, func(s string) {
		text, code := ints.Read(s)
		if code != api.CoOK {
			return
		}
		if again, code := ints.Read(text); again != text || code != api.CoOK || !normalForm.MatchString(text) {
			t.Fatalf("%q: %q, then %q, %d", s, text, again, code)
		}
	})
}

// spaces hands on a text of digits with `_` between them, in each way that there is.
func spaces(digits string, look func(s string)) {
	for way := range 1 << (len(digits) - 1) {
		s := digits[:1]
		for i := 1; i < len(digits); i++ {
			if way>>(i-1)&1 == 1 {
				s += "_"
			}
			s += digits[i : i+1]
		}
		look(s)
	}
}

// TestOneFormOneValue: in any radix, with `_` between any digits, a value has its one normal form.
func TestOneFormOneValue(t *testing.T) {
	for _, n := range []int64{0, 1, 2, 7, 8, 9, 10, 15, 16, 63, 99, 100, 255, 256, 500, 511, 1000, 0xABC} {
		want := strconv.FormatInt(n, 10)
		has := func(s, want string) {
			if text, code := ints.Read(s); text != want || code != api.CoOK {
				t.Fatalf("%q: %q, %d", s, text, code)
			}
		}
		spaces(want, func(s string) {
			has(s, want)
			has("+"+s, want)
			has("-"+s, strconv.FormatInt(-n, 10))
		})
		for _, r := range radixes {
			for _, noughts := range []string{"", "0", "00"} {
				spaces(noughts+strconv.FormatInt(n, r.base), func(s string) {
					has(r.prefix+s, want)
					has(r.prefix+strings.ToUpper(s), want)
				})
			}
		}
	}
	for _, n := range []int64{1<<31 - 1, 1 << 31, 1<<53 + 1, 1 << 62, math.MaxInt64} {
		for _, s := range []string{fmt.Sprintf("%d", n), fmt.Sprintf("+%d", n), fmt.Sprintf("0x%x", n), fmt.Sprintf("0x%016X", n), fmt.Sprintf("0o%o", n), fmt.Sprintf("0b%b", n)} {
			if text, code := ints.Read(s); text != strconv.FormatInt(n, 10) || code != api.CoOK {
				t.Errorf("%q: %q, %d", s, text, code)
			}
		}
	}
}

// R4

// TestAnswersAreTheirOwn: no answer stands in the room of what was handed in.
func TestAnswersAreTheirOwn(t *testing.T) {
	for _, s := range order {
		s = strings.Clone(s)
		text, _ := ints.Read(s)
		if text != s || unsafe.StringData(text) == unsafe.StringData(s) {
			t.Errorf("%q: %q", s, text)
		}
	}
}
