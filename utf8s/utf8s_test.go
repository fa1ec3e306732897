package utf8s_test

import (
	"bytes"
	"slices"
	"testing"
	"unicode/utf8"

	"inarch/utf8s"
)

// edges has a byte on either side of each bound that the chapter names.
var edges = []byte{0x00, 0x0A, 0x41, 0x7F, 0x80, 0x8F, 0x90, 0x9F, 0xA0, 0xBF, 0xC0, 0xC1, 0xC2, 0xDF, 0xE0, 0xE1, 0xEC, 0xED, 0xEE, 0xEF, 0xF0, 0xF1, 0xF3, 0xF4, 0xF5, 0xFF}

// everyEdge hands on all texts of up to four of the edges.
func everyEdge(look func(b []byte)) {
	look(nil)
	var grow func(b []byte)
	grow = func(b []byte) {
		if len(b) == 4 {
			return
		}
		for _, c := range edges {
			more := append(b[:len(b):len(b)], c)
			look(more)
			grow(more)
		}
	}
	grow(nil)
}

// wrongAt is the library's word on the first wrong byte; -1: there is none.
func wrongAt(b []byte) int {
	for at := 0; at < len(b); {
		r, n := utf8.DecodeRune(b[at:])
		if r == utf8.RuneError && n == 1 {
			return at
		}
		at += n
	}
	return -1
}

// placeOf goes through all of the bytes from the beginning on, as the chapter's words say it.
func placeOf(b []byte, at int) (line, column int) {
	line, column = 1, 1
	for i := 0; i < at; {
		_, n := utf8.DecodeRune(b[i:])
		if b[i] == '\n' {
			line, column = line+1, 1
		} else {
			column++
		}
		i += n
	}
	return line, column
}

// P1.1

func TestCheckOfRunes(t *testing.T) {
	for _, s := range []string{"", "a", "\x00", "\x7F", "\n\r\t", "\xC3\xA9\x41", "é€😀", "a\uFEFFb", "\uFFFD", "\uFFFE\uFFFF", "\U0010FFFF"} {
		if at, ok := utf8s.Check([]byte(s)); at != 0 || !ok {
			t.Errorf("%q: %d, %v", s, at, ok)
		}
	}
	if at, ok := utf8s.Check(nil); at != 0 || !ok {
		t.Errorf("nil: %d, %v", at, ok)
	}
}

func TestCheckOfWrongBytes(t *testing.T) {
	for _, c := range []struct {
		b  string
		at int
	}{
		{"\x41\xC3\x41", 1},
		{"\xE2\x82", 0},
		{"\xC3", 0},
		{"é\xC3", 2},
		{"€\xE2", 3},
		{"€\xE2\x82", 3},
		{"😀\xF0", 4},
		{"😀\xF0\x9F", 4},
		{"😀\xF0\x9F\x98", 4},
		{"\xF0\x9F\x98a", 0},
		{"\xF0\x9Fa\x80", 0},
		{"\xF0a\x98\x80", 0},
		{"\xE2a\x82", 0},
		{"\xE2\x82a", 0},
		{"abc\x80", 3},
		{"\xA9\xC3", 0},
		{"é\xA9", 2},
		{"a\xFFb\xFF", 1},
		{"a\xED\xA0\xBD\xED\xB8\x80", 1},
		{"a\xC0\x80", 1},
		{"a\xF8\x88\x80\x80\x80", 1},
	} {
		if at, ok := utf8s.Check([]byte(c.b)); at != c.at || ok {
			t.Errorf("%q: %d, %v", c.b, at, ok)
		}
	}
}

// TestCheckOfSecondBytes holds each first byte, with each second one, against the bounds of the chapter.
func TestCheckOfSecondBytes(t *testing.T) {
	for first := 0x80; first <= 0xFF; first++ {
		least, greatest, more := 0x80, 0xBF, 0
		switch {
		case first >= 0xC2 && first <= 0xDF:
			more = 1
		case first >= 0xE0 && first <= 0xEF:
			more = 2
		case first >= 0xF0 && first <= 0xF4:
			more = 3
		}
		switch first {
		case 0xE0:
			least = 0xA0
		case 0xED:
			greatest = 0x9F
		case 0xF0:
			least = 0x90
		case 0xF4:
			greatest = 0x8F
		}
		for second := 0; second <= 0xFF; second++ {
			b := []byte{byte(first), byte(second), 0x80, 0xBF}[:1+max(1, more)]
			want := more > 0 && second >= least && second <= greatest
			if at, ok := utf8s.Check(b); at != 0 || ok != want {
				t.Errorf("% X: %d, %v", b, at, ok)
			}
		}
	}
}

func TestCheckOfEveryEdge(t *testing.T) {
	everyEdge(func(b []byte) {
		want := wrongAt(b)
		at, ok := utf8s.Check(b)
		if ok != (want < 0) || at != max(want, 0) {
			t.Fatalf("% X: %d, %v", b, at, ok)
		}
	})
}

// P1.2

func TestPlace(t *testing.T) {
	for _, c := range []struct {
		b                string
		at, line, column int
	}{
		{"a\nbc", 3, 2, 2},
		{"", 0, 1, 1},
		{"a", 0, 1, 1},
		{"a", 1, 1, 2},
		{"a\n", 1, 1, 2},
		{"a\n", 2, 2, 1},
		{"\n\n\n", 0, 1, 1},
		{"\n\n\n", 2, 3, 1},
		{"\n\n\n", 3, 4, 1},
		{"a\r\nb", 2, 1, 3},
		{"a\r\nb", 3, 2, 1},
		{"é€😀b", 2, 1, 2},
		{"é€😀b", 5, 1, 3},
		{"é€😀b", 9, 1, 4},
		{"é€😀b", 10, 1, 5},
		{"é\né€b", 8, 2, 3},
	} {
		if line, column := utf8s.Place([]byte(c.b), c.at); line != c.line || column != c.column {
			t.Errorf("%q at %d: %d, %d", c.b, c.at, line, column)
		}
	}
}

// TestPlaceWithinRune: the rune has begun ahead of the place, whatever is left of it behind.
func TestPlaceWithinRune(t *testing.T) {
	b := []byte("a\n😀b")
	for at, column := range []int{1, 2, 1, 2, 2, 2, 2, 3} {
		line := 1
		if at > 1 {
			line = 2
		}
		if l, c := utf8s.Place(b, at); l != line || c != column {
			t.Errorf("at %d: %d, %d", at, l, c)
		}
	}
}

// TestPlaceOfWrongBytes: where no rune begins, each byte counts as one, and a line's end within such bytes ends the line.
func TestPlaceOfWrongBytes(t *testing.T) {
	for _, c := range []struct {
		b                string
		at, line, column int
	}{
		{"\xFF\x80b", 1, 1, 2},
		{"\xFF\x80b", 2, 1, 3},
		{"\xFF\x80b", 3, 1, 4},
		{"\xE2\x82", 1, 1, 2},
		{"\xE2\x82", 2, 1, 3},
		{"\xF0\x9F\x98\xC3\xA9b", 3, 1, 4},
		{"\xF0\x9F\x98\xC3\xA9b", 5, 1, 5},
		{"\xE2\n\x82\xACb", 1, 1, 2},
		{"\xE2\n\x82\xACb", 2, 2, 1},
		{"\xE2\n\x82\xACb", 4, 2, 3},
		{"\xFF\n\xFFa", 4, 2, 3},
		{"\xED\xA0\x80", 3, 1, 4},
	} {
		if line, column := utf8s.Place([]byte(c.b), c.at); line != c.line || column != c.column {
			t.Errorf("%q at %d: %d, %d", c.b, c.at, line, column)
		}
	}
}

func TestPlaceOutside(t *testing.T) {
	for _, s := range []string{"", "a", "a\nb", "é"} {
		for _, at := range []int{-1, -1 << 63, len(s) + 1, 1<<63 - 1} {
			if line, column := utf8s.Place([]byte(s), at); line != 0 || column != 0 {
				t.Errorf("%q at %d: %d, %d", s, at, line, column)
			}
		}
		if line, _ := utf8s.Place([]byte(s), len(s)); line == 0 {
			t.Errorf("%q: just behind the last byte", s)
		}
	}
	if line, column := utf8s.Place(nil, 0); line != 1 || column != 1 {
		t.Errorf("nil at 0: %d, %d", line, column)
	}
	if line, column := utf8s.Place(nil, 1); line != 0 || column != 0 {
		t.Errorf("nil at 1: %d, %d", line, column)
	}
}

func TestPlaceOfEveryEdge(t *testing.T) {
	everyEdge(func(b []byte) {
		for at := range len(b) + 1 {
			wantLine, wantColumn := placeOf(b, at)
			if line, column := utf8s.Place(b, at); line != wantLine || column != wantColumn {
				t.Fatalf("% X at %d: %d, %d", b, at, line, column)
			}
		}
	})
}

// P1.3

func TestRunes(t *testing.T) {
	for _, c := range []struct {
		b    string
		want []int
	}{
		{"", nil},
		{"\x41\xC3\xA9", []int{65, 233}},
		{"aé€😀", []int{97, 233, 8364, 128512}},
		{"\x00\x7F", []int{0, 127}},
		{"\u0080\u07FF\u0800\uD7FF\uE000\uFFFF\U00010000\U0010FFFF", []int{128, 2047, 2048, 55295, 57344, 65535, 65536, 1114111}},
		{"\uFFFD", []int{65533}},
		{"a\xC3", []int{97}},
		{"é\xFFé", []int{233}},
		{"é€\xED\xA0\x80a", []int{233, 8364}},
		{"\xFFa", nil},
		{"\x80", nil},
		{"\xF0\x9F\x98", nil},
	} {
		if got := utf8s.Runes([]byte(c.b)); !slices.Equal(got, c.want) {
			t.Errorf("%q: %v", c.b, got)
		}
	}
	if got := utf8s.Runes(nil); len(got) != 0 {
		t.Errorf("nil: %v", got)
	}
}

func TestRunesOfEveryEdge(t *testing.T) {
	everyEdge(func(b []byte) {
		whole := b
		if at := wrongAt(b); at >= 0 {
			whole = b[:at]
		}
		var want []int
		for _, r := range string(whole) {
			want = append(want, int(r))
		}
		if got := utf8s.Runes(b); !slices.Equal(got, want) || cap(got) != len(got) {
			t.Fatalf("% X: %v", b, got)
		}
	})
}

func TestPut(t *testing.T) {
	for _, c := range []struct {
		runes []int
		want  string
	}{
		{nil, ""},
		{[]int{}, ""},
		{[]int{8364}, "\xE2\x82\xAC"},
		{[]int{0, 127}, "\x00\x7F"},
		{[]int{128, 2047}, "\xC2\x80\xDF\xBF"},
		{[]int{2048, 55295}, "\xE0\xA0\x80\xED\x9F\xBF"},
		{[]int{57344, 65535}, "\xEE\x80\x80\xEF\xBF\xBF"},
		{[]int{65536, 1114111}, "\xF0\x90\x80\x80\xF4\x8F\xBF\xBF"},
		{[]int{65533}, "\xEF\xBF\xBD"},
		{[]int{97, 233, 8364, 128512, 97}, "aé€😀a"},
	} {
		if got := utf8s.Put(c.runes...); string(got) != c.want {
			t.Errorf("%v: % X", c.runes, got)
		}
	}
}

func TestPutOfNoRunes(t *testing.T) {
	for _, r := range []int{-1, -97, -1 << 31, -1 << 63, 55296, 56319, 56320, 57343, 1114112, 1<<32 + 97, 1<<63 - 1} {
		if got := utf8s.Put(r); string(got) != "\xEF\xBF\xBD" {
			t.Errorf("%d: % X", r, got)
		}
		if got := utf8s.Put(97, r, r, 98); string(got) != "a\uFFFD\uFFFDb" || cap(got) != len(got) {
			t.Errorf("%d between others: % X", r, got)
		}
	}
}

// TestEveryNumber puts each number from below the least to above the greatest one, and gets it back.
func TestEveryNumber(t *testing.T) {
	for r := -2; r <= 1114113; r++ {
		want := r
		if r < 0 || r > 1114111 || r >= 55296 && r <= 57343 {
			want = 65533
		}
		b := utf8s.Put(r)
		if string(b) != string(rune(want)) {
			t.Fatalf("%d: % X", r, b)
		}
		if got := utf8s.Runes(b); len(got) != 1 || got[0] != want {
			t.Fatalf("%d: got as %v", r, got)
		}
	}
}

// P1.4

func TestPutIsRunes(t *testing.T) {
	numbers := []int{-1, 0, 10, 127, 128, 2047, 2048, 55295, 55296, 57343, 57344, 65533, 65535, 65536, 1114111, 1114112}
	for _, x := range numbers {
		for _, y := range numbers {
			for _, z := range numbers {
				put := utf8s.Put(x, y, z)
				if at, ok := utf8s.Check(put); at != 0 || !ok {
					t.Fatalf("%d, %d, %d: %d, %v", x, y, z, at, ok)
				}
				got := utf8s.Runes(put)
				if again := utf8s.Put(got...); len(got) != 3 || !bytes.Equal(again, put) {
					t.Fatalf("%d, %d, %d: % X, then % X", x, y, z, put, again)
				}
			}
		}
	}
}

func TestRunesBehindRunes(t *testing.T) {
	var lists [][]byte
	for _, s := range []string{"", "a", "\n", "\x7F", "\u0080", "\u07FF", "\u0800", "\uFFFF", "\U00010000", "\U0010FFFF", "é€😀"} {
		lists = append(lists, []byte(s))
	}
	for _, x := range lists {
		for _, y := range lists {
			both := slices.Concat(x, y)
			if at, ok := utf8s.Check(both); at != 0 || !ok {
				t.Errorf("% X: %d, %v", both, at, ok)
			}
			if got := utf8s.Runes(both); !slices.Equal(got, append(utf8s.Runes(x), utf8s.Runes(y)...)) {
				t.Errorf("% X: %v", both, got)
			}
		}
	}
}

// TestStaysWrong: behind a wrong byte and three more no byte changes what is wrong; with fewer behind it, it may be mended.
func TestStaysWrong(t *testing.T) {
	behind := []string{"", "a", "\n", "\x80", "\xBF\xBF\xBF", "\xC3\xA9", "😀", "\xFF"}
	everyEdge(func(b []byte) {
		at, ok := utf8s.Check(b)
		if ok {
			return
		}
		if ahead, fine := utf8s.Check(b[:at]); ahead != 0 || !fine {
			t.Fatalf("% X: not runes ahead of %d", b, at)
		}
		if at+3 >= len(b) {
			return
		}
		for _, s := range behind {
			if again, fine := utf8s.Check(append(b[:len(b):len(b)], s...)); again != at || fine {
				t.Fatalf("% X, then % X: %d, %v", b, s, again, fine)
			}
		}
	})
	if at, ok := utf8s.Check([]byte("a\xF0\x9F\x98")); at != 1 || ok {
		t.Errorf("two behind: %d, %v", at, ok)
	}
	if at, ok := utf8s.Check([]byte("a\xF0\x9F\x98\x80")); at != 0 || !ok {
		t.Errorf("mended: %d, %v", at, ok)
	}
}

// R1 and R4

func TestNothingIsChanged(t *testing.T) {
	for _, s := range []string{"aé\n€😀", "aé\n\xFF\x80b", "\xF0\x9F\x98"} {
		b := []byte(s)
		room := append([]byte(s), "room behind"...)
		for _, x := range [][]byte{b, room[:len(s)]} {
			utf8s.Check(x)
			utf8s.Runes(x)
			for at := -1; at <= len(x)+1; at++ {
				utf8s.Place(x, at)
			}
		}
		if string(b) != s || string(room) != s+"room behind" {
			t.Errorf("%q: % X, % X", s, b, room)
		}
	}
	runes := []int{97, -1, 55296, 1114112, 8364, 7}
	utf8s.Put(runes[:5]...)
	if !slices.Equal(runes, []int{97, -1, 55296, 1114112, 8364, 7}) {
		t.Error(runes)
	}
}

// TestBytesBehindAreNotLookedAt: what stands in a slice's room, behind its last byte, doesn't make its last rune whole.
func TestBytesBehindAreNotLookedAt(t *testing.T) {
	b := []byte("a😀b")
	for end := 2; end < 5; end++ {
		if at, ok := utf8s.Check(b[:end]); at != 1 || ok {
			t.Errorf("up to %d: %d, %v", end, at, ok)
		}
		if got := utf8s.Runes(b[:end]); !slices.Equal(got, []int{97}) {
			t.Errorf("up to %d: %v", end, got)
		}
		if line, column := utf8s.Place(b[:end], end); line != 1 || column != 1+end {
			t.Errorf("up to %d: %d, %d", end, line, column)
		}
	}
}

func TestAnswersAreTheirOwn(t *testing.T) {
	b := []byte("aé€😀")
	first, second := utf8s.Runes(b), utf8s.Runes(b)
	b[0], second[1] = 'z', 7
	if !slices.Equal(first, []int{97, 233, 8364, 128512}) || cap(first) != len(first) {
		t.Error(first, cap(first))
	}
	runes := []int{97, 233, 8364, 128512}
	put, again := utf8s.Put(runes...), utf8s.Put(runes...)
	runes[0], again[1] = 122, 'y'
	if string(put) != "aé€😀" || cap(put) != len(put) {
		t.Errorf("%q, %d", put, cap(put))
	}
}
