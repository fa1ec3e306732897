package dates_test

import (
	"fmt"
	"regexp"
	"slices"
	"strconv"
	"strings"
	"testing"
	"time"
	"unsafe"

	"inarch/api"
	"inarch/dates"
)

// The grammar, as the chapter's words say it, beside the package's own way of going through a text.
const (
	dateText = `([0-9]{4})-([0-9]{2})-([0-9]{2})`
	timeText = `([0-9]{2}):([0-9]{2}):([0-9]{2})(\.[0-9]+)?`
	zoneText = `([Zz]|[+-][0-9]{2}:[0-9]{2})`
)

var (
	dateAlone = regexp.MustCompile(`^` + dateText + `$`)
	timeAlone = regexp.MustCompile(`^` + timeText + `$`)
	both      = regexp.MustCompile(`^` + dateText + `[Tt ]` + timeText + `$`)
	zoned     = regexp.MustCompile(`^` + dateText + `[Tt ]` + timeText + zoneText + `$`)
	longest   = regexp.MustCompile(`^(` + dateText + `([Tt ]` + timeText + zoneText + `?)?|` + timeText + `)`)
)

func init() { longest.Longest() }

// number of digits.
func number(digits string) int {
	n, err := strconv.Atoi(digits)
	if err != nil {
		panic(err)
	}
	return n
}

// isDay tells if the library's calendar has a day: it has another one in its stead if there is none.
func isDay(year, month, day int) bool {
	d := time.Date(year, time.Month(month), day, 0, 0, 0, 0, time.UTC)
	return d.Year() == year && int(d.Month()) == month && d.Day() == day
}

// isClock tells if a day has a time.
func isClock(hour, minute, second int) bool {
	return hour < 24 && minute < 60 && (second < 60 || second == 60 && minute == 59)
}

// dateOf a date's parts; ok: its numbers may be.
func dateOf(m []string) (text string, ok bool) {
	return m[0] + "-" + m[1] + "-" + m[2], isDay(number(m[0]), number(m[1]), number(m[2]))
}

// timeOf a time's parts, likewise.
func timeOf(m []string) (text string, ok bool) {
	text = m[0] + ":" + m[1] + ":" + m[2]
	if part := strings.TrimRight(m[3], "0"); len(part) > 1 {
		text += part
	}
	return text, isClock(number(m[0]), number(m[1]), number(m[2]))
}

// zoneOf a zone, likewise.
func zoneOf(s string) (text string, ok bool) {
	if s == "Z" || s == "z" {
		return "Z", true
	}
	return s, number(s[1:3]) < 24 && number(s[4:]) < 60
}

// wanted of a text: its normal form, that one's kind, and the code.
func wanted(s string) (text string, kind dates.Kind, code api.Code) {
	var date, clock, zone string
	dateOK, clockOK, zoneOK := true, true, true
	if m := dateAlone.FindStringSubmatch(s); m != nil {
		kind = dates.DtDate
		text, dateOK = dateOf(m[1:])
	} else if m := timeAlone.FindStringSubmatch(s); m != nil {
		kind = dates.DtTime
		text, clockOK = timeOf(m[1:])
	} else if m := both.FindStringSubmatch(s); m != nil {
		kind = dates.DtBoth
		date, dateOK = dateOf(m[1:])
		clock, clockOK = timeOf(m[4:])
		text = date + "T" + clock
	} else if m := zoned.FindStringSubmatch(s); m != nil {
		kind = dates.DtZone
		date, dateOK = dateOf(m[1:])
		clock, clockOK = timeOf(m[4:])
		zone, zoneOK = zoneOf(m[8])
		text = date + "T" + clock + zone
	} else {
		return "", dates.DtNone, api.CoSyntax
	}
	if !dateOK || !clockOK || !zoneOK {
		return "", dates.DtNone, api.CoDate
	}
	return text, kind, api.CoOK
}

// look if all that is told of a text is as the grammar and the library have it.
func look(t *testing.T, s string) {
	t.Helper()
	want, kind, wantCode := wanted(s)
	text, code := dates.Read(s)
	if text != want || code != wantCode {
		t.Fatalf("%q: %q, %d, not %q, %d", s, text, code, want, wantCode)
	}
	if got := dates.Of(text); got != kind {
		t.Fatalf("%q is %q, of kind %d, not %d", s, text, got, kind)
	}
	if got := dates.Of(s); got != dates.DtNone && (text != s || code != api.CoOK) {
		t.Fatalf("%q, no normal form: of kind %d", s, got)
	}
	if again, code := dates.Read(text); text != "" && (again != text || code != api.CoOK) {
		t.Fatalf("%q: %q, then %q, %d", s, text, again, code)
	}
	if got, want := dates.Long(s), len(longest.FindString(s)); got != want {
		t.Fatalf("%q: %d bytes, not %d", s, got, want)
	}
}

// some are date-times of each form, of whatever numbers.
var some = []string{
	"1979-05-27", "07:32:00", "07:32:00.500", "1979-05-27T07:32:00", "1979-05-27 07:32:00.25", "1979-05-27t23:59:60z",
	"1979-05-27T07:32:00.9990Z", "2000-02-29T00:32:00-07:00", "2000-02-29 00:32:00.0+23:59",
	"9999-99-99", "99:99:99.9", "9999-99-99T99:99:99+99:99",
}

// P7.1

func TestReadOfNormalForms(t *testing.T) {
	for _, c := range []struct{ s, want string }{
		{"1979-05-27", "1979-05-27"},
		{"2000-02-29", "2000-02-29"},
		{"0000-01-01", "0000-01-01"},
		{"9999-12-31", "9999-12-31"},
		{"07:32:00", "07:32:00"},
		{"00:00:00", "00:00:00"},
		{"23:59:59", "23:59:59"},
		{"07:32:00.5", "07:32:00.5"},
		{"07:32:00.500", "07:32:00.5"},
		{"07:32:00.0", "07:32:00"},
		{"07:32:00.000", "07:32:00"},
		{"07:32:10.0", "07:32:10"},
		{"07:32:00.050", "07:32:00.05"},
		{"07:32:00.100200", "07:32:00.1002"},
		{"07:32:00.123456789012345678901234567890", "07:32:00.12345678901234567890123456789"},
		{"1979-05-27T07:32:00", "1979-05-27T07:32:00"},
		{"1979-05-27t07:32:00", "1979-05-27T07:32:00"},
		{"1979-05-27 07:32:00", "1979-05-27T07:32:00"},
		{"1979-05-27 07:32:00.000", "1979-05-27T07:32:00"},
		{"1979-05-27T07:32:00Z", "1979-05-27T07:32:00Z"},
		{"1979-05-27T07:32:00z", "1979-05-27T07:32:00Z"},
		{"1979-05-27 07:32:00.500z", "1979-05-27T07:32:00.5Z"},
		{"1979-05-27t07:32:00.0z", "1979-05-27T07:32:00Z"},
		{"1979-05-27T00:32:00-07:00", "1979-05-27T00:32:00-07:00"},
		{"1979-05-27 00:32:00.990+05:30", "1979-05-27T00:32:00.99+05:30"},
		{"1979-05-27T00:32:00+00:00", "1979-05-27T00:32:00+00:00"},
		{"1979-05-27T00:32:00-00:00", "1979-05-27T00:32:00-00:00"},
		{"1979-05-27T00:32:00.0-23:59", "1979-05-27T00:32:00-23:59"},
		{"1979-05-27T07:59:60", "1979-05-27T07:59:60"},
		{"07:59:60.990", "07:59:60.99"},
	} {
		if text, code := dates.Read(c.s); text != c.want || code != api.CoOK {
			t.Errorf("%q: %q, %d", c.s, text, code)
		}
		look(t, c.s)
	}
}

func TestReadBeyondBounds(t *testing.T) {
	for _, s := range []string{
		"1900-02-29", "2100-02-29", "2023-02-29", "0001-02-29", "0100-02-29", "2000-02-30", "2024-02-30", "2023-04-31", "2023-06-31", "2023-09-31", "2023-11-31",
		"2023-01-32", "2023-12-32", "2023-01-00", "2023-00-01", "2023-13-01", "2023-99-99", "0000-00-00",
		"24:00:00", "99:00:00", "00:60:00", "00:99:00", "00:00:60", "00:58:60", "00:59:61", "00:59:99", "24:59:60", "00:60:60", "24:00:00.0", "00:00:60.5",
		"1900-02-29T00:00:00", "2023-01-01T24:00:00", "2023-01-01 00:00:60", "2023-13-01t00:00:00Z", "2023-01-01T00:60:00.5z",
		"2023-01-01T00:00:00+24:00", "2023-01-01T00:00:00-24:00", "2023-01-01T00:00:00+00:60", "2023-01-01T00:00:00-00:99", "2023-01-01T00:00:00.25+99:00",
	} {
		if text, code := dates.Read(s); text != "" || code != api.CoDate {
			t.Errorf("%q: %q, %d", s, text, code)
		}
		look(t, s)
	}
}

// TestReadOfOtherForms: what is not of the form is told ahead of numbers beyond their bounds.
func TestReadOfOtherForms(t *testing.T) {
	for _, s := range []string{
		"", " ", "T", "Z", "z", "-", ":", ".", "+", "0", "12", "1979", "07:32", "07:32:", "07:32:0", "7:32:00", "07:2:00", "07:32:000", "007:32:00", "073200", "07.32.00", "07-32-00", "07:32:00.", "07:32:00..5", "07:32:00.5.", "07:32:00.5_0", "07:32:00,5", "07:32:00.x", "07:32:00 ", " 07:32:00", "07:32:00T", "-07:32:00",
		"07:32:00Z", "07:32:00z", "07:32:00+01:00", "07:32:00.5Z", "07:32:00.5-01:00",
		"1979-05", "1979-05-", "1979-05-2", "1979-5-27", "79-05-27", "979-05-27", "11979-05-27", "1979-05-277", "19790527", "1979-0527", "1979/05/27", "1979:05:27", "1979-05:27", "+1979-05-27", "-1979-05-27", " 1979-05-27", "1979-05-27\n", "1979-05-27 ", "1979-05-27T", "1979-05-27t", "1979-05-27.5",
		"1979-05-27Z", "1979-05-27z", "1979-05-27+01:00", "1979-05-27TZ", "1979-05-27T+01:00",
		"1979-05-27T07", "1979-05-27T07:32", "1979-05-27T07:32Z", "1979-05-27T07:32:0", "1979-05-27T07:32:00.", "1979-05-27T07:32:00.Z", "1979-05-27T07:32:00.+01:00", "1979-05-27T7:32:00", "1979-05-27TT07:32:00", "1979-05-27  07:32:00", "1979-05-27T 07:32:00", "1979-05-27\t07:32:00", "1979-05-27\n07:32:00", "1979-05-27_07:32:00", "1979-05-27x07:32:00", "1979-05-2707:32:00", "1979-05-27\u00a007:32:00",
		"1979-05-27T07:32:00 Z", "1979-05-27T07:32:00ZZ", "1979-05-27T07:32:00Zz", "1979-05-27T07:32:00Z+01:00", "1979-05-27T07:32:00Z.5", "1979-05-27T07:32:00 +01:00", "1979-05-27T07:32:00+", "1979-05-27T07:32:00-0", "1979-05-27T07:32:00+01", "1979-05-27T07:32:00+01:", "1979-05-27T07:32:00+01:0", "1979-05-27T07:32:00+1:00", "1979-05-27T07:32:00+0100", "1979-05-27T07:32:00+01:000", "1979-05-27T07:32:00+01:00:00", "1979-05-27T07:32:00+01:00Z", "1979-05-27T07:32:00\u221201:00", "1979-05-27T07:32:00*01:00",
		"07:32:00T1979-05-27", "07:32:00 1979-05-27", "1979-05-27T1979-05-27", "07:32:00T07:32:00",
		"24:00:00Z", "9999-99-99Z", "99:99:99.", "9999-99-99T99:99", "2023-02-29x", "9999-99-99T99:99:99+99",
		"YYYY-MM-DD", "hh:mm:ss", "1979-05-27Thh:mm:ss", "dddd-dd-dd", "0x79-05-27", "\uff11\uff19\uff17\uff19-05-27", "\u06f11979-05-27", "1979\xff05-27", "1979-05-27\xff", "\x001979-05-27", "1979-05-27\x00", "1979\u201305\u201327",
	} {
		if text, code := dates.Read(s); text != "" || code != api.CoSyntax {
			t.Errorf("%q: %q, %d", s, text, code)
		}
		look(t, s)
	}
}

// TestOfEveryTime: of all numbers that may be written, just those within their bounds may be.
func TestOfEveryTime(t *testing.T) {
	for hour := range 100 {
		for minute := range 100 {
			for second := range 100 {
				s, want, wantCode := fmt.Sprintf("%02d:%02d:%02d", hour, minute, second), "", api.CoDate
				if isClock(hour, minute, second) {
					want, wantCode = s, api.CoOK
				}
				if text, code := dates.Read(s); text != want || code != wantCode {
					t.Fatalf("%q: %q, %d", s, text, code)
				}
			}
		}
	}
}

// TestOfEveryZone likewise, of each sign.
func TestOfEveryZone(t *testing.T) {
	for hours := range 100 {
		for minutes := range 100 {
			for _, sign := range []string{"+", "-"} {
				look(t, fmt.Sprintf("2024-02-29T23:59:60%s%02d:%02d", sign, hours, minutes))
			}
		}
	}
}

// TestOfPartsTogether puts parts of each form, and of none, one behind the other.
func TestOfPartsTogether(t *testing.T) {
	met := 0
	for _, date := range []string{"", "1979-05-27", "2000-02-29", "1900-02-29", "0000-12-31", "2023-00-10", "979-05-27", "1979-5-27", "1979-05-2"} {
		for _, between := range []string{"", "T", "t", " ", "  ", "\t", "_", "x", "TT", "-"} {
			for _, clock := range []string{"", "07:32:00", "23:59:60", "23:58:60", "24:00:00", "7:32:00", "07:32"} {
				for _, part := range []string{"", ".", ".0", ".5", ".50", ".050", ".000", ".x"} {
					for _, zone := range []string{"", "Z", "z", "+00:00", "-07:30", "+23:59", "-24:00", "+00:60", "+7:00", "-0700", "+", " Z", "ZZ", "y"} {
						s := date + between + clock + part + zone
						look(t, s)
						if _, code := dates.Read(s); code == api.CoOK {
							met++
						}
					}
				}
			}
		}
	}
	if met < 500 {
		t.Errorf("only %d texts that are read", met)
	}
}

// TestOfEveryByte sets each byte at each place, ahead of what stands there, and in its stead; and leaves each one out.
func TestOfEveryByte(t *testing.T) {
	for _, s := range some {
		for at := range len(s) + 1 {
			for c := range 256 {
				b := string([]byte{byte(c)})
				look(t, s[:at]+b+s[at:])
				if at < len(s) {
					look(t, s[:at]+b+s[at+1:])
				}
			}
			if at < len(s) {
				look(t, s[:at]+s[at+1:])
			}
		}
	}
}

func TestOfLongTexts(t *testing.T) {
	const many = 1000000
	digits, noughts := strings.Repeat("123456789", many/9), strings.Repeat("0", many)
	for _, c := range []struct{ s, want string }{
		{"07:32:00." + digits, "07:32:00." + digits},
		{"07:32:00." + noughts, "07:32:00"},
		{"1979-05-27 07:32:00." + noughts + "1" + noughts + "z", "1979-05-27T07:32:00." + noughts + "1Z"},
		{"1979-05-27 07:32:00." + noughts + "+01:00", "1979-05-27T07:32:00+01:00"},
	} {
		text, code := dates.Read(c.s)
		if text != c.want || code != api.CoOK || dates.Of(text) == dates.DtNone {
			t.Errorf("%.30q of %d bytes: %.30q, %d", c.s, len(c.s), text, code)
		}
		if got := dates.Long(c.s + " x"); got != len(c.s) {
			t.Errorf("%.30q of %d bytes: %d", c.s, len(c.s), got)
		}
	}
	for _, s := range []string{
		noughts, strings.Repeat("-", many), strings.Repeat(".", many), strings.Repeat("Z", many), strings.Repeat("T", many),
		"07:32:00." + noughts + ".", "07:32:00." + noughts + "Z", strings.Repeat("07:32:00", many/8), strings.Repeat("1979-05-27T07:32:00Z", many/20),
	} {
		if text, code := dates.Read(s); text != "" || code != api.CoSyntax || dates.Of(s) != dates.DtNone {
			t.Errorf("%.30q of %d bytes: %.30q, %d", s, len(s), text, code)
		}
	}
}

// P7.2

func TestKinds(t *testing.T) {
	kinds := []dates.Kind{dates.DtNone, dates.DtDate, dates.DtTime, dates.DtBoth, dates.DtZone}
	if !slices.Equal(kinds, []dates.Kind{0, 1, 2, 3, 4}) {
		t.Error(kinds)
	}
}

func TestOf(t *testing.T) {
	for _, c := range []struct {
		text string
		want dates.Kind
	}{
		{"1979-05-27", dates.DtDate},
		{"0000-02-29", dates.DtDate},
		{"07:32:00", dates.DtTime},
		{"23:59:60", dates.DtTime},
		{"07:32:00.5", dates.DtTime},
		{"07:32:00.005", dates.DtTime},
		{"1979-05-27T07:32:00", dates.DtBoth},
		{"1979-05-27T07:32:00.25", dates.DtBoth},
		{"1979-05-27T07:32:00Z", dates.DtZone},
		{"1979-05-27T07:32:00.25Z", dates.DtZone},
		{"1979-05-27T07:32:00+01:30", dates.DtZone},
		{"1979-05-27T07:32:00-00:00", dates.DtZone},
		{"1979-05-27T07:32:00.25-23:59", dates.DtZone},
	} {
		if got := dates.Of(c.text); got != c.want {
			t.Errorf("%q: %d", c.text, got)
		}
	}
}

// TestOfOthers: texts that are read, but are no normal forms, those whose numbers may not be, and those that are no date-time's.
func TestOfOthers(t *testing.T) {
	for _, s := range []string{
		"07:32:00.0", "07:32:00.50", "07:32:00.000", "1979-05-27t07:32:00", "1979-05-27 07:32:00", "1979-05-27T07:32:00z", "1979-05-27 07:32:00Z", "1979-05-27T07:32:00.0Z", "1979-05-27T07:32:00.10+01:00",
		"1900-02-29", "24:00:00", "1979-05-27T24:00:00", "1979-05-27T07:32:00+24:00", "1979-05-27T07:32:00Z ",
		"", " ", "T", "Z", "x", "1979", "07:32", "07:32:00Z", "1979-05-27Z", "1979-05-27T", "1979-05-27T07:32", " 1979-05-27", "1979-05-27x", "07:32:00.", "12e0", "inf", "true", "\xff",
	} {
		if got := dates.Of(s); got != dates.DtNone {
			t.Errorf("%q: %d", s, got)
		}
	}
}

// P7.3

func TestLong(t *testing.T) {
	for _, c := range []struct{ s, rest string }{
		{"1979-05-27", " # x"},
		{"1979-05-27", " "},
		{"1979-05-27", "T"},
		{"1979-05-27", " 07:32"},
		{"1979-05-27", "T07:32:0x"},
		{"1979-05-27", "  07:32:00"},
		{"1979-05-27", "Z"},
		{"1979-05-27", "+01:00"},
		{"1979-05-27", "8"},
		{"1979-05-27", ".5"},
		{"1979-05-27", "\n07:32:00"},
		{"07:32:00", "Z"},
		{"07:32:00", "."},
		{"07:32:00", ".x"},
		{"07:32:00", "0"},
		{"07:32:00", " 07:32:00"},
		{"07:32:00.5", ".5"},
		{"07:32:00.500", "Z"},
		{"07:32:00.500", "_0"},
		{"1979-05-27 07:32:00", " # x"},
		{"1979-05-27t07:32:00", " Z"},
		{"1979-05-27T07:32:00", ".Z"},
		{"1979-05-27T07:32:00", "+01:0"},
		{"1979-05-27T07:32:00", "-0100"},
		{"1979-05-27T07:32:00", "*01:00"},
		{"1979-05-27T07:32:00.5", "+1:00"},
		{"1979-05-27T07:32:00Z", "Z"},
		{"1979-05-27T07:32:00z", "+01:00"},
		{"1979-05-27T07:32:00.5+01:00", "0"},
		{"1979-05-27T07:32:00.5-01:00", ", 2]"},
		{"9999-99-99", "x"},
		{"99:99:99.9", "x"},
		{"9999-99-99 99:99:99+99:99", "9"},
		{"", "1979-5-27"},
		{"", "979-05-27"},
		{"", "7:32:00"},
		{"", " 07:32:00"},
		{"", "x1979-05-27"},
		{"", "-1979-05-27"},
		{"", "T07:32:00"},
		{"", "12"},
		{"", "Z"},
		{"", "YYYY-MM-DD"},
		{"", "\xff"},
		{"", ""},
	} {
		if got := dates.Long(c.s + c.rest); got != len(c.s) {
			t.Errorf("%q, then %q: %d", c.s, c.rest, got)
		}
		look(t, c.s+c.rest)
	}
}

// TestLongOfBeginnings looks at date-times that end, or go on otherwise, at any place.
func TestLongOfBeginnings(t *testing.T) {
	for _, s := range some {
		if got := dates.Long(s); got != len(s) {
			t.Errorf("%q: %d", s, got)
		}
		for at := range len(s) + 1 {
			for _, more := range []string{"", " ", "x", "Z", "T07:32:00", " 07:32:00Z", ".5", "+01:00", "0", "\n", ",", "]", "\xff"} {
				look(t, s[:at]+more)
			}
		}
	}
}

// P7.4

func TestFormOfForm(t *testing.T) {
	for _, s := range some {
		text, code := dates.Read(s)
		if code != api.CoOK {
			continue
		}
		if again, code := dates.Read(text); again != text || code != api.CoOK || dates.Of(text) == dates.DtNone || dates.Long(text) != len(text) {
			t.Errorf("%q: %q, then %q, %d", s, text, again, code)
		}
	}
}

// TestDaysOfFourHundredYears: of all days that may be written, just those that the library's calendar has, one behind the other, may be.
func TestDaysOfFourHundredYears(t *testing.T) {
	for _, first := range []int{0, 1985} {
		day, met := time.Date(first, 1, 1, 0, 0, 0, 0, time.UTC), 0
		for n := range 400 * 100 * 100 {
			year, month, number := first+n/10000, n/100%100, n%100
			s, want, wantCode := fmt.Sprintf("%04d-%02d-%02d", year, month, number), "", api.CoDate
			if day.Year() == year && int(day.Month()) == month && day.Day() == number {
				want, wantCode = s, api.CoOK
				day = day.AddDate(0, 0, 1)
				met++
			}
			if text, code := dates.Read(s); text != want || code != wantCode {
				t.Fatalf("%q: %q, %d", s, text, code)
			}
		}
		if met != 146097 {
			t.Errorf("from %d on: %d days", first, met)
		}
	}
}

// TestLeapDays of all years that may be written.
func TestLeapDays(t *testing.T) {
	for year := range 10000 {
		for _, day := range []string{"02-28", "02-29", "02-30", "03-01"} {
			look(t, fmt.Sprintf("%04d-%s", year, day))
		}
	}
}

// R4

// TestAnswersAreTheirOwn: no answer stands in the room of what was handed in.
func TestAnswersAreTheirOwn(t *testing.T) {
	for _, s := range []string{"1979-05-27", "07:32:00", "07:32:00.5", "1979-05-27T07:32:00", "1979-05-27T07:32:00.5Z", "1979-05-27T07:32:00-07:00"} {
		s = strings.Clone(s)
		text, code := dates.Read(s)
		if code != api.CoOK || text != s || unsafe.StringData(text) == unsafe.StringData(s) {
			t.Errorf("%q: %q, %d", s, text, code)
		}
	}
}
