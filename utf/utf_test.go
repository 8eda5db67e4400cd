package utf

import (
	"bytes"
	"math"
	"math/rand"
	"slices"
	"strings"
	"testing"
	"unicode/utf8"

	"selvedge/api"
)

// interval is a range of bytes, its ends within it.
type interval [2]byte

var tail = interval{0x80, 0xBF}

// forms are the well-formed parts, byte by byte, as Unicode's own table writes them out: a second account beside the library's.
var forms = [][]interval{
	{{0x00, 0x7F}},
	{{0xC2, 0xDF}, tail},
	{{0xE0, 0xE0}, {0xA0, 0xBF}, tail},
	{{0xE1, 0xEC}, tail, tail},
	{{0xED, 0xED}, {0x80, 0x9F}, tail},
	{{0xEE, 0xEF}, tail, tail},
	{{0xF0, 0xF0}, {0x90, 0xBF}, tail, tail},
	{{0xF1, 0xF3}, tail, tail, tail},
	{{0xF4, 0xF4}, {0x80, 0x8F}, tail, tail},
}

// matched tells how many bytes of b begin the form.
func matched(b []byte, form []interval) int {
	n := 0
	for n < len(b) && n < len(form) && form[n][0] <= b[n] && b[n] <= form[n][1] {
		n++
	}
	return n
}

// cut tells the part with which b begins, and how many bytes it has.
func cut(b []byte) (rune, int) {
	longest := 1
	for _, form := range forms {
		n := matched(b, form)
		if n == len(form) {
			return value(b[:n]), n
		}
		longest = max(longest, n)
	}
	return 0xFFFD, longest
}

// value tells the character of a well-formed part.
func value(part []byte) rune {
	if len(part) == 1 {
		return rune(part[0])
	}
	r := rune(part[0]) & (0x7F >> len(part))
	for _, x := range part[1:] {
		r = r<<6 | rune(x&0x3F)
	}
	return r
}

// encoded tells the UTF-8 of a character, by its bits.
func encoded(r rune) []byte {
	low := func(n int) byte { return 0x80 | byte(r>>(6*n))&0x3F }
	switch {
	case r < 0x80:
		return []byte{byte(r)}
	case r < 0x800:
		return []byte{0xC0 | byte(r>>6), low(0)}
	case r < 0x10000:
		return []byte{0xE0 | byte(r>>12), low(1), low(0)}
	}
	return []byte{0xF0 | byte(r>>18), low(2), low(1), low(0)}
}

func wantRunes(b []byte) []rune {
	var out []rune
	for len(b) > 0 {
		r, n := cut(b)
		out = append(out, r)
		b = b[n:]
	}
	return out
}

func wantText(b []byte) string {
	var out []byte
	l := wantRunes(b)
	for i, r := range l {
		switch {
		case r == 0xA && i > 0 && l[i-1] == 0xD:
		case r == 0xD:
			out = append(out, 0xA)
		default:
			out = append(out, encoded(r)...)
		}
	}
	return string(out)
}

func isCharacter(r rune) bool {
	return r >= 0 && r < 0xD800 || r > 0xDFFF && r <= 0x10FFFF
}

// edges are the bytes at which the forms differ, and those of line ends.
var edges = []byte{0x00, 0x0A, 0x0D, 0x28, 0x7F, 0x80, 0x8F, 0x90, 0x9F, 0xA0, 0xBF, 0xC0, 0xC1, 0xC2, 0xDF, 0xE0, 0xE1, 0xEC, 0xED, 0xEE, 0xEF, 0xF0, 0xF1, 0xF3, 0xF4, 0xF5, 0xFF}

// bytesOf goes over all rows of n of the bytes, each behind the ones ahead.
func bytesOf(n int, from []byte, row []byte, yield func([]byte)) {
	if n == 0 {
		yield(row)
		return
	}
	for _, x := range from {
		bytesOf(n-1, from, append(row, x), yield)
	}
}

// jumble tells rows of bytes in which parts of all kinds, whole and broken, stand beside one another: the same ones at each run.
func jumble(yield func([]byte)) {
	pieces := [][]byte{
		{0x61}, {0x0A}, {0x0D}, {0x0D, 0x0A}, {0x00}, {0xD7, 0x90}, {0xEF, 0xBF, 0xBD}, {0xEF, 0xBB, 0xBF}, {0xE2, 0x81, 0xA9}, {0xF0, 0x9F, 0x98, 0x80},
		{0xF0, 0x9F, 0x98}, {0xF0, 0x9F}, {0xF0}, {0xE2, 0x82}, {0xE2}, {0xC3}, {0x80}, {0xBF}, {0xED, 0xA0, 0x80}, {0xF4, 0x90}, {0xC0, 0xAF}, {0xFF}, {0xF8, 0x88, 0x80, 0x80, 0x80},
	}
	source := rand.New(rand.NewSource(2))
	for range 20000 {
		var row []byte
		for range source.Intn(12) {
			row = append(row, pieces[source.Intn(len(pieces))]...)
		}
		yield(row)
	}
}

// P2.1

func TestDecodeExamples(t *testing.T) {
	for _, x := range []struct{ bytes, want string }{
		{"", ""},
		{"a\r\nb\rc", "a\nb\nc"},
		{"\xC3\xA9", "\u00E9"}, {"\xC3", "\uFFFD"}, {"\xC3\x28", "\uFFFD("}, {"\xE2\x82\x28", "\uFFFD("},
		{"\xF0\x80\x80", "\uFFFD\uFFFD\uFFFD"}, {"\x80", "\uFFFD"}, {"\xED\xA0\x80", "\uFFFD\uFFFD\uFFFD"},
		{"\xF4\x90", "\uFFFD\uFFFD"}, {"\xC0\xAF", "\uFFFD\uFFFD"}, {"\xF0\x9F\x98", "\uFFFD"},
		{"\xF0\x9F\x98\x80", "\U0001F600"}, {"\xF0\x9F\x98\xF0\x9F\x98\x80", "\uFFFD\U0001F600"},
		{"\xEF\xBF\xBD\xEF\xBF", "\uFFFD\uFFFD"}, {"\xEF\xBB\xBFa", "\uFEFFa"}, {"\x00", "\x00"},
		{"\xE2\x82\xE2\x82\xAC", "\uFFFD\u20AC"}, {"\xF4\x8F\xBF\xBF", "\U0010FFFF"}, {"\xF4\x8F\xBF", "\uFFFD"},
		{"\xED\x9F\xBF\xEE\x80\x80", "\uD7FF\uE000"}, {"\xF5\x80", "\uFFFD\uFFFD"},
	} {
		if s, e := Decode([]byte(x.bytes)); s != x.want || e != api.OK {
			t.Errorf("Decode(% X) = % X, %v, want % X", x.bytes, s, e, x.want)
		}
	}
}

func TestDecodeLineEnds(t *testing.T) {
	for _, x := range []struct{ bytes, want string }{
		{"\r", "\n"}, {"\n", "\n"}, {"\r\n", "\n"}, {"\n\r", "\n\n"}, {"\r\r", "\n\n"}, {"\r\r\n", "\n\n"}, {"\r\n\n", "\n\n"},
		{"\r\n\r\n", "\n\n"}, {"\r\n\r", "\n\n"}, {"\n\r\n", "\n\n"}, {"\ra\n", "\na\n"}, {"\r\n\r\r\n\n\r", "\n\n\n\n\n"},
		{"\r\xFF\n", "\n\uFFFD\n"}, {"\xE2\r\n", "\uFFFD\n"}, {"\xF0\x9F\x98\r", "\uFFFD\n"}, {"\r\xE2\x82\n", "\n\uFFFD\n"},
		{"\u0085\u2028\u2029\v\f", "\u0085\u2028\u2029\v\f"},
	} {
		if s, e := Decode([]byte(x.bytes)); s != x.want || e != api.OK {
			t.Errorf("Decode(%q) = %q, %v, want %q", x.bytes, s, e, x.want)
		}
	}
}

func TestDecodeLimit(t *testing.T) {
	if api.MaxBytes != 65536 {
		t.Fatal(api.MaxBytes)
	}
	for _, x := range []struct{ unit, want string }{
		{"a", "a"}, {"\r", "\n"}, {"\r\n", "\n"}, {"\xFF", "\uFFFD"}, {"\u05D0", "\u05D0"}, {"\U0001F600", "\U0001F600"}, {"\xF0\x9F\x98(", "\uFFFD("},
	} {
		n := 65536 / len(x.unit)
		full := []byte(strings.Repeat(x.unit, n))
		if s, e := Decode(full); s != strings.Repeat(x.want, n) || e != api.OK {
			t.Errorf("65536 bytes of %q: %d bytes, %v", x.unit, len(s), e)
		}
		if s, e := Decode(full[:65535]); s == "" || e != api.OK {
			t.Errorf("65535 bytes of %q: %d bytes, %v", x.unit, len(s), e)
		}
		for _, more := range []string{"a", "\n", "\x80", "abc"} {
			if s, e := Decode(append(slices.Clip(full), more...)); s != "" || e != api.ErrLimit {
				t.Errorf("%q and %q: %d bytes, %v", x.unit, more, len(s), e)
			}
		}
	}
	if s, e := Decode(make([]byte, 1<<20)); s != "" || e != api.ErrLimit {
		t.Errorf("%d bytes, %v", len(s), e)
	}
}

func TestDecodeOfNothing(t *testing.T) {
	for _, b := range [][]byte{nil, {}, []byte("abc")[:0]} {
		if s, e := Decode(b); s != "" || e != api.OK {
			t.Errorf("%q, %v", s, e)
		}
	}
}

// P2.1, P2.2: what parts bytes are cut into

func check(t *testing.T, b []byte) {
	if l, want := Runes(string(b)), wantRunes(b); !slices.Equal(l, want) {
		t.Fatalf("Runes(% X) = %X, want %X", b, l, want)
	}
	if s, e := Decode(b); s != wantText(b) || e != api.OK {
		t.Fatalf("Decode(% X) = % X, %v, want % X", b, s, e, wantText(b))
	}
}

func TestPartsOfAllShortRows(t *testing.T) {
	all := make([]byte, 256)
	for i := range all {
		all[i] = byte(i)
	}
	for n := range 3 {
		bytesOf(n, all, nil, func(b []byte) { check(t, b) })
	}
}

func TestPartsAtTheEdgesOfBytes(t *testing.T) {
	for n := 3; n <= 4; n++ {
		bytesOf(n, edges, nil, func(b []byte) { check(t, b) })
	}
}

func TestPartsOfJumbles(t *testing.T) {
	jumble(func(b []byte) { check(t, b) })
}

func TestEveryCharacterIsAPart(t *testing.T) {
	for r := rune(0); r <= 0x10FFFF; r++ {
		b := encoded(r)
		l, s := Runes(string(b)), String([]rune{r})
		if !isCharacter(r) {
			if s != "\uFFFD" || !slices.Equal(l, []rune{0xFFFD, 0xFFFD, 0xFFFD}) {
				t.Fatalf("%X is no character: %X, % X", r, l, s)
			}
			continue
		}
		if !slices.Equal(l, []rune{r}) || s != string(b) {
			t.Fatalf("%X: %X, % X", r, l, s)
		}
		if d, e := Decode(b); r != 0xD && (d != string(b) || e != api.OK) {
			t.Fatalf("Decode of %X: % X, %v", r, d, e)
		}
	}
}

// P2.2

func TestRunesExamples(t *testing.T) {
	for _, x := range []struct {
		s    string
		want []rune
	}{
		{"", nil}, {"a", []rune{'a'}}, {"\u05D0\xFF", []rune{0x5D0, 0xFFFD}}, {"\xE2\x82(", []rune{0xFFFD, '('}}, {"\xF0\x9F\x98", []rune{0xFFFD}},
		{"\r\n\r", []rune{0xD, 0xA, 0xD}}, {"\uFFFD\xEF\xBF", []rune{0xFFFD, 0xFFFD}}, {"\x00\U0010FFFF", []rune{0, 0x10FFFF}},
	} {
		if l := Runes(x.s); !slices.Equal(l, x.want) {
			t.Errorf("Runes(% X) = %X, want %X", x.s, l, x.want)
		}
	}
}

func TestRunesHasNoLimit(t *testing.T) {
	if l := Runes(strings.Repeat("\u05D0\xE2\x82", api.MaxBytes)); len(l) != 2*api.MaxBytes || l[0] != 0x5D0 || l[len(l)-1] != 0xFFFD {
		t.Errorf("%d characters", len(l))
	}
}

func TestStringExamples(t *testing.T) {
	for _, x := range []struct {
		l    []rune
		want string
	}{
		{nil, ""}, {[]rune{}, ""}, {[]rune{'a', 0xD800, 0x5D0}, "a\uFFFD\u05D0"}, {[]rune{0xD, 0xA}, "\r\n"}, {[]rune{0}, "\x00"},
		{[]rune{0xD7FF, 0xD800, 0xDFFF, 0xE000}, "\uD7FF\uFFFD\uFFFD\uE000"}, {[]rune{0xD83D, 0xDE00}, "\uFFFD\uFFFD"},
		{[]rune{0x10FFFF, 0x110000, math.MaxInt32}, "\U0010FFFF\uFFFD\uFFFD"}, {[]rune{-1, math.MinInt32, -0x5D0}, "\uFFFD\uFFFD\uFFFD"},
		{[]rune{0x7F, 0x80, 0x7FF, 0x800, 0xFFFF, 0x10000}, "\x7F\xC2\x80\xDF\xBF\xE0\xA0\x80\xEF\xBF\xBF\xF0\x90\x80\x80"},
	} {
		if s := String(x.l); s != x.want {
			t.Errorf("String(%X) = % X, want % X", x.l, s, x.want)
		}
	}
}

// P2.3

func TestBytesAreOnlyRead(t *testing.T) {
	whole := []byte("a\r\nb\xFF\u05D0behind")
	before := slices.Clone(whole)
	b := whole[:7]
	s, _ := Decode(b)
	if !bytes.Equal(whole, before) {
		t.Errorf("% X became % X", before, whole)
	}
	clear(whole)
	if s != "a\nb\uFFFD\u05D0" {
		t.Errorf("the text became % X", s)
	}
	plain := []byte("abc")
	s, _ = Decode(plain)
	clear(plain)
	if s != "abc" {
		t.Errorf("the text became % X", s)
	}
}

func TestCharactersAreOnlyRead(t *testing.T) {
	whole := []rune{'a', 0xD800, 0x5D0, -1, 'b'}
	before := slices.Clone(whole)
	s := String(whole[:3])
	if !slices.Equal(whole, before) {
		t.Errorf("%X became %X", before, whole)
	}
	clear(whole)
	if s != "a\uFFFD\u05D0" {
		t.Errorf("the text became % X", s)
	}
}

func TestRunesAreNewMemory(t *testing.T) {
	const text = "a\u05D0b"
	first, second := Runes(text), Runes(text)
	clear(first[:cap(first)])
	if !slices.Equal(second, []rune{'a', 0x5D0, 'b'}) {
		t.Errorf("%X", second)
	}
}

// P2.4

// checkText holds the text of bytes against what is promised of every text.
func checkText(t *testing.T, b []byte) {
	text, _ := Decode(b)
	if again, e := Decode([]byte(text)); again != text || e != api.OK {
		t.Fatalf("Decode of the text % X: % X, %v", text, again, e)
	}
	if !utf8.ValidString(text) || strings.ContainsRune(text, '\r') {
		t.Fatalf("the text of % X is % X", b, text)
	}
	l := Runes(text)
	if s := String(l); s != text {
		t.Fatalf("String of Runes of % X: % X", text, s)
	}
	if back := Runes(String(l)); !slices.Equal(back, l) {
		t.Fatalf("Runes of String of %X: %X", l, back)
	}
}

func TestThereAndBack(t *testing.T) {
	for n := range 4 {
		bytesOf(n, edges, nil, func(b []byte) { checkText(t, b) })
	}
	jumble(func(b []byte) { checkText(t, b) })
}

func TestAllCharactersThereAndBack(t *testing.T) {
	var l []rune
	for r := rune(0); r <= 0x10FFFF; r++ {
		if isCharacter(r) {
			l = append(l, r)
		}
	}
	if back := Runes(String(l)); !slices.Equal(back, l) {
		t.Errorf("%d characters became %d", len(l), len(back))
	}
}
