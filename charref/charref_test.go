package charref

import (
	"math/rand"
	"strconv"
	"strings"
	"testing"
	"unsafe"
)

// The chapter's lists, word by word: a second account beside the program's tables.
const (
	withoutToo = "amp 26, lt 3C, gt 3E, quot 22, AMP 26, LT 3C, GT 3E, QUOT 22, COPY A9, REG AE, nbsp A0, cent A2, pound A3, yen A5, sect A7, copy A9, laquo AB, not AC, shy AD, reg AE, deg B0, plusmn B1, para B6, middot B7, raquo BB, times D7, divide F7"
	wantIt     = "apos 27, ensp 2002, emsp 2003, thinsp 2009, zwnj 200C, zwj 200D, lrm 200E, rlm 200F, ndash 2013, mdash 2014, lsquo 2018, rsquo 2019, ldquo 201C, rdquo 201D, bull 2022, hellip 2026, lsaquo 2039, rsaquo 203A, euro 20AC, larr 2190, uarr 2191, rarr 2192, darr 2193, in 2208, notin 2209, minus 2212, infin 221E, ne 2260, le 2264, ge 2265, lang 27E8, rang 27E9"
	ofNumbers  = "80 20AC, 82 201A, 83 192, 84 201E, 85 2026, 86 2020, 87 2021, 88 2C6, 89 2030, 8A 160, 8B 2039, 8C 152, 8E 17D, 91 2018, 92 2019, 93 201C, 94 201D, 95 2022, 96 2013, 97 2014, 98 2DC, 99 2122, 9A 161, 9B 203A, 9C 153, 9E 17E, 9F 178"
)

// read tells the entries of a list of the chapter's.
func read(list string) map[string]rune {
	out := map[string]rune{}
	for _, entry := range strings.Split(list, ", ") {
		word, number, _ := strings.Cut(entry, " ")
		r, err := strconv.ParseInt(number, 16, 32)
		if err != nil {
			panic(err)
		}
		out[word] = rune(r)
	}
	return out
}

// account tells by the chapter's lists what Find tells: every way is tried, the longest counts.
type account struct {
	bare, all map[string]rune
	numbers   map[string]rune
}

func newAccount() account {
	a := account{bare: read(withoutToo), all: read(withoutToo), numbers: read(ofNumbers)}
	for word, r := range read(wantIt) {
		a.all[word] = r
	}
	return a
}

const alphanumeric = "0123456789ABCDEFGHIJKLMNOPQRSTUVWXYZabcdefghijklmnopqrstuvwxyz"

func (a account) find(s string, attr bool) (rune, int, bool) {
	if !strings.HasPrefix(s, "&") {
		return 0, 0, false
	}
	if strings.HasPrefix(s, "&#") {
		if strings.HasPrefix(s, "&#x") || strings.HasPrefix(s, "&#X") {
			return a.number(s, 3, "0123456789abcdefABCDEF", 16)
		}
		return a.number(s, 2, "0123456789", 10)
	}
	r, n := rune(0), 0
	for word, char := range a.all {
		if l := 1 + len(word) + 1; strings.HasPrefix(s[1:], word+";") && l > n {
			r, n = char, l
		}
	}
	for word, char := range a.bare {
		if l := 1 + len(word); strings.HasPrefix(s[1:], word) && l > n {
			r, n = char, l
		}
	}
	if n == 0 || attr && s[n-1] != ';' && n < len(s) && strings.Contains("="+alphanumeric, s[n:n+1]) {
		return 0, 0, false
	}
	return r, n, true
}

func (a account) number(s string, first int, digits string, base int) (rune, int, bool) {
	n := first
	for n < len(s) && strings.Contains(digits, s[n:n+1]) {
		n++
	}
	if n == first {
		return 0, 0, false
	}
	v, err := strconv.ParseUint(s[first:n], base, 64)
	if n < len(s) && s[n] == ';' {
		n++
	}
	if err != nil || v == 0 || v > 0x10FFFF || v >= 0xD800 && v <= 0xDFFF {
		return 0xFFFD, n, true
	}
	if r, ok := a.numbers[strings.ToUpper(strconv.FormatUint(v, 16))]; ok {
		return r, n, true
	}
	return rune(v), n, true
}

func (a account) decode(s string, attr bool) string {
	out := ""
	for s != "" {
		r, n, ok := a.find(s, attr)
		if ok {
			out += string(r)
		} else {
			n = 1
			out += s[:1]
		}
		s = s[n:]
	}
	return out
}

func (a account) check(t *testing.T, s string) {
	t.Helper()
	for _, attr := range []bool{false, true} {
		r, n, ok := Find(s, attr)
		if wr, wn, wok := a.find(s, attr); r != wr || n != wn || ok != wok {
			t.Fatalf("Find(%q, %v) = %X, %d, %v, want %X, %d, %v", s, attr, r, n, ok, wr, wn, wok)
		}
		if d, want := Decode(s, attr), a.decode(s, attr); d != want {
			t.Fatalf("Decode(%q, %v) = %q, want %q", s, attr, d, want)
		}
	}
}

func wantFind(t *testing.T, s string, attr bool, r rune, n int, ok bool) {
	t.Helper()
	if gr, gn, gok := Find(s, attr); gr != r || gn != n || gok != ok {
		t.Errorf("Find(%q, %v) = %X, %d, %v, want %X, %d, %v", s, attr, gr, gn, gok, r, n, ok)
	}
}

func wantNone(t *testing.T, s string, attr bool) {
	t.Helper()
	wantFind(t, s, attr, 0, 0, false)
}

// both are the two kinds of text: one of a document, one of an attribute.
var both = []bool{false, true}

// P3.1: the names

func TestNamesRise(t *testing.T) {
	list, widest := names(), 0
	for i, x := range list {
		if i > 0 && list[i-1].word >= x.word {
			t.Errorf("%s stands ahead of %s", list[i-1].word, x.word)
		}
		widest = max(widest, len(x.word))
	}
	if widest != longest {
		t.Errorf("a name has %d letters", widest)
	}
	if n := len(newAccount().all); n != len(list) {
		t.Errorf("%d names, want %d", len(list), n)
	}
}

func TestFindEveryName(t *testing.T) {
	a := newAccount()
	for word, r := range a.all {
		for _, attr := range both {
			for _, behind := range []string{"", ";", "=", "x", "7", "&", " ", "\u05D0"} {
				wantFind(t, "&"+word+";"+behind, attr, r, len(word)+2, true)
			}
		}
	}
	for word, r := range a.bare {
		for _, attr := range both {
			for _, behind := range []string{"", " ", "&", "&amp;", "#", "-", "_", ".", ":", "/", "<", "@", "[", "`", "{", "\x00", "\u00E9", "\xFF"} {
				wantFind(t, "&"+word+behind, attr, r, len(word)+1, true)
			}
		}
	}
}

func TestFindNamesThatWantASemicolon(t *testing.T) {
	for word := range read(wantIt) {
		if word == "notin" {
			continue
		}
		for _, behind := range []string{"", " ", "x", "=", ":", "&", word, " ;"} {
			wantNone(t, "&"+word+behind, false)
			wantNone(t, "&"+word+behind, true)
		}
	}
}

func TestFindTheLongestName(t *testing.T) {
	for _, x := range []struct {
		s    string
		r    rune
		n    int
		attr bool // is it one in an attribute too?
	}{
		{"&notin;", 0x2209, 7, true}, {"&not;in;", 0xAC, 5, true}, {"&notin", 0xAC, 4, false}, {"&noti", 0xAC, 4, false}, {"&notin ;", 0xAC, 4, false},
		{"&notinx;", 0xAC, 4, false}, {"&notinfinity;", 0xAC, 4, false}, {"&nota;", 0xAC, 4, false}, {"&not in;", 0xAC, 4, true},
		{"&ltx", '<', 3, false}, {"&lte;", '<', 3, false}, {"&ampamp;", '&', 4, false}, {"&ampere", '&', 4, false}, {"&copying;", 0xA9, 5, false},
		{"&plusmnx", 0xB1, 7, false}, {"&middot7", 0xB7, 7, false}, {"&divide=", 0xF7, 7, false}, {"&AMPlitude", '&', 4, false}, {"&regs", 0xAE, 4, false},
	} {
		wantFind(t, x.s, false, x.r, x.n, true)
		if x.attr {
			wantFind(t, x.s, true, x.r, x.n, true)
		} else {
			wantNone(t, x.s, true)
		}
	}
}

func TestFindInAnAttributeByWhatFollows(t *testing.T) {
	for b := range 256 {
		s := "&copy" + string([]byte{byte(b)})
		switch {
		case b == ';':
			wantFind(t, s, true, 0xA9, 6, true)
		case b == '=' || strings.IndexByte(alphanumeric, byte(b)) >= 0:
			wantNone(t, s, true)
		default:
			wantFind(t, s, true, 0xA9, 5, true)
		}
		if b != ';' {
			wantFind(t, s, false, 0xA9, 5, true)
		}
	}
}

func TestFindNoName(t *testing.T) {
	for _, s := range []string{
		"", "&", "&;", "& ", "& lt;", "&&lt;", "x&lt;", " &lt;", "lt;", ";", "#65;", "&unknown;", "&Amp;", "&aMP", "&Lt", "&Copy;", "&NBSP;", "&nbs;", "&am", "&am;",
		"&l", "&n", "&no;", "&zzz;", "&a", "&A", "&thinspx;", "&thins;", "&Notin;", "&7", "&\u00E9;", "&\x00", "&\xFF", "&-lt;", "&_", "&=", "\u0026\u200B", "\uFF06lt;",
	} {
		wantNone(t, s, false)
		wantNone(t, s, true)
	}
}

// P3.1: the numbers

func TestFindByNumber(t *testing.T) {
	for _, x := range []struct {
		s string
		r rune
		n int
	}{
		{"&#65;", 'A', 5}, {"&#65", 'A', 4}, {"&#x41;", 'A', 6}, {"&#X41;", 'A', 6}, {"&#x41", 'A', 5}, {"&#X41", 'A', 5}, {"&#65x", 'A', 4}, {"&#65;;", 'A', 5}, {"&#65 ;", 'A', 4},
		{"&#65&#66;", 'A', 4}, {"&#0065;", 'A', 7}, {"&#x00000000000000000041;", 'A', 24}, {"&#00000000000000000065z", 'A', 22}, {"&#65A", 'A', 4}, {"&#65=", 'A', 4},
		{"&#x41g", 'A', 5}, {"&#x41=", 'A', 5}, {"&#xaBcD;", 0xABCD, 8}, {"&#XAbCd;", 0xABCD, 8}, {"&#xfF", 0xFF, 5}, {"&#9;", 9, 4}, {"&#10;", 10, 5}, {"&#13;", 13, 5}, {"&#1;", 1, 4},
		{"&#127;", 127, 6}, {"&#160;", 0xA0, 6}, {"&#x10FFFF;", 0x10FFFF, 10}, {"&#1114111;", 0x10FFFF, 10}, {"&#xD7FF;", 0xD7FF, 8}, {"&#xE000;", 0xE000, 8}, {"&#xFFFE;", 0xFFFE, 8}, {"&#xFFFD;", 0xFFFD, 8},
	} {
		for _, attr := range both {
			wantFind(t, x.s, attr, x.r, x.n, true)
		}
	}
}

func TestFindNoNumber(t *testing.T) {
	for _, s := range []string{
		"&#", "&#;", "&#x", "&#X", "&#x;", "&#X;", "&#xg;", "&#Xg", "&# 65;", "&#x 41;", "&#-65;", "&#+65;", "&#a;", "&#F", "&#xx41;", "&#x#41;", "&##65;", "&#&#65;", "&#\u0661;", "&#x\uFF11;", "&#_", "&#/", "&#:",
		"&#x/", "&#x:", "&#x@", "&#xG", "&#x`", "&#lt;", "& #65;",
	} {
		wantNone(t, s, false)
		wantNone(t, s, true)
	}
}

func TestFindNumbersThatAreNoCharacter(t *testing.T) {
	for _, digits := range []string{
		"0", "00000000000", "xD800", "xDBFF", "xDC00", "xDFFF", "55296", "57343", "x110000", "1114112", "x7FFFFFFF", "x80000000", "xFFFFFFFF", "x100000000", "x100000041", "4294967296", "4294967361",
		"x10000000000000041", "18446744073709551681", "x" + strings.Repeat("F", 100), "x1" + strings.Repeat("0", 99), "1" + strings.Repeat("0", 1000), "1" + strings.Repeat("0", 1000) + "65", "x0",
	} {
		for _, attr := range both {
			wantFind(t, "&#"+digits+";", attr, 0xFFFD, len(digits)+3, true)
			wantFind(t, "&#"+digits+" ", attr, 0xFFFD, len(digits)+2, true)
		}
	}
}

func TestFindNumbersFrom80To9F(t *testing.T) {
	numbers := read(ofNumbers)
	for v := 0x7F; v <= 0xA0; v++ {
		hex := strconv.FormatInt(int64(v), 16)
		want, ok := numbers[strings.ToUpper(hex)]
		if !ok {
			want = rune(v)
		}
		for _, attr := range both {
			wantFind(t, "&#x"+hex, attr, want, 5, true)
			wantFind(t, "&#"+strconv.Itoa(v)+";", attr, want, len(strconv.Itoa(v))+3, true)
		}
	}
	for _, s := range []string{"&#x81;", "&#x8D;", "&#x8F;", "&#x90;", "&#x9D;"} {
		if _, _, ok := Find(s, false); !ok {
			t.Errorf("%s is none", s)
		}
	}
}

// P3.2

func TestDecodeExamples(t *testing.T) {
	for _, x := range []struct{ s, text, attr string }{
		{"&amp;lt; &lt &notin; &notin &noti", "&lt; < \u2209 \u00ACin \u00ACi", "&lt; < \u2209 &notin &noti"},
		{"&copy=1 &copy;=1 &copyx", "\u00A9=1 \u00A9=1 \u00A9x", "&copy=1 \u00A9=1 &copyx"},
		{"&#65; &#x41; &#X41 &#65x &#; &#x; &#", "A A A Ax &#; &#x; &#", "A A A Ax &#; &#x; &#"},
		{"&#0; &#xD800; &#1114112; &#128; &#129;", "\uFFFD \uFFFD \uFFFD \u20AC \u0081", "\uFFFD \uFFFD \uFFFD \u20AC \u0081"},
		{"&unknown; & &; &AMP &Amp;", "&unknown; & &; & &Amp;", "&unknown; & &; & &Amp;"},
	} {
		if d := Decode(x.s, false); d != x.text {
			t.Errorf("%q: %q, want %q", x.s, d, x.text)
		}
		if d := Decode(x.s, true); d != x.attr {
			t.Errorf("%q in an attribute: %q, want %q", x.s, d, x.attr)
		}
	}
}

func TestDecodeWhatComesOfAReferenceIsLeft(t *testing.T) {
	for _, x := range []struct{ s, want string }{
		{"&amp;amp;", "&amp;"}, {"&amp;#65;", "&#65;"}, {"&#38;lt;", "&lt;"}, {"&#x26;#65;", "&#65;"}, {"&#38;#38;lt;", "&#38;lt;"}, {"&amp;amp;amp;", "&amp;amp;"},
		{"&#38;&#108;&#116;&#59;", "&lt;"}, {"&&lt;;", "&<;"}, {"&#&#65;;", "&#A;"}, {"&#x&#65;;", "&#xA;"}, {"&am&#112;;", "&amp;"}, {"&lt&#59;", "<;"}, {"&#6&#53;;", "\u00065;"},
		{"&&&amp;&&", "&&&&&"}, {"&lt;&gt;&quot;&apos;", "<>\"'"}, {"&lt&gt&quot", "<>\""}, {"&#65&#66&#x43", "ABC"}, {"&amp&lt", "&<"}, {"a&lt;b&gt;c", "a<b>c"}, {"&amp", "&"}, {"&amp;", "&"}, {"&", "&"}, {"", ""},
	} {
		for _, attr := range both {
			if d := Decode(x.s, attr); d != x.want {
				t.Errorf("Decode(%q, %v) = %q, want %q", x.s, attr, d, x.want)
			}
		}
	}
}

func TestDecodeLeavesAllElse(t *testing.T) {
	for _, x := range []struct{ s, want string }{
		{"\xFF&lt;\xE2\x82&gt;\x80", "\xFF<\xE2\x82>\x80"}, {"\r\n&#13;\x00&#10;\t", "\r\n\r\x00\n\t"}, {"\xED\xA0\x80&amp;", "\xED\xA0\x80&"}, {"&\xFF;", "&\xFF;"}, {"\u05D0&rlm;\u05D1", "\u05D0\u200F\u05D1"},
	} {
		for _, attr := range both {
			if d := Decode(x.s, attr); d != x.want {
				t.Errorf("Decode(%q, %v) = %q, want %q", x.s, attr, d, x.want)
			}
		}
	}
}

// P3.1, P3.2: texts of all kinds of parts, held against the second account

func parts() []string {
	return []string{
		"&", "&", "&", "#", "&#", "&#x", "&#X", "&#x", ";", ";", "=", " ", "x", "X", "0", "1", "9", "41", "65", "80", "9f", "D8", "10FFFF", "1114111", "0000", "g", "\xFF", "\u05D0", "&lt", "&amp;",
		"lt", "amp", "not", "notin", "in", "infin", "copy", "AMP", "le", "thinsp", "plusmn", "no", "ne", "reg", "rang", "zwnj", "zwj", "zz", "A",
	}
}

func TestAllShortTexts(t *testing.T) {
	a, list := newAccount(), parts()
	for _, x := range list {
		for _, y := range list {
			for _, z := range list {
				a.check(t, "&"+x+y+z)
			}
			a.check(t, x+y)
		}
		a.check(t, x)
	}
}

func TestJumbles(t *testing.T) {
	a, list := newAccount(), parts()
	source := rand.New(rand.NewSource(3)) // the same ones at each run
	for range 20000 {
		s := ""
		for range source.Intn(12) {
			s += list[source.Intn(len(list))]
		}
		a.check(t, s)
	}
}

// P3.3

func TestEscapedTextsComeBack(t *testing.T) {
	check := func(s string) {
		for _, attr := range both {
			for _, amp := range []string{"&amp;", "&AMP;", "&#38;", "&#x26;"} {
				if d := Decode(strings.ReplaceAll(s, "&", amp), attr); d != s {
					t.Fatalf("%q escaped by %s, %v: %q", s, amp, attr, d)
				}
			}
			plain := strings.ReplaceAll(s, "&", "")
			if d := Decode(plain, attr); d != plain {
				t.Fatalf("%q without &, %v: %q", plain, attr, d)
			}
		}
	}
	for _, s := range []string{"", "&", "&&&", "&amp;", "&lt", "a & b", "&#65;", "&copy=1", "\x00\xFF&\xED\xA0\x80", "lt; gt; #65; ;", "\r\n"} {
		check(s)
	}
	list := parts()
	source := rand.New(rand.NewSource(33))
	for range 5000 {
		s := ""
		for range source.Intn(10) {
			s += list[source.Intn(len(list))]
		}
		check(s)
	}
}

func TestEveryCharacterByItsNumber(t *testing.T) {
	for r := rune(1); r <= 0x10FFFF; r++ {
		if r >= 0xD800 && r <= 0xDFFF || r >= 0x80 && r <= 0x9F {
			continue
		}
		dec, hex := strconv.Itoa(int(r)), strconv.FormatInt(int64(r), 16)
		for _, s := range []string{"&#" + dec + ";", "&#x" + hex + ";", "&#X" + strings.ToUpper(hex)} {
			if d := Decode(s, r%2 == 0); d != string(r) {
				t.Fatalf("%s is decoded as %q, want %q", s, d, string(r))
			}
		}
	}
}

// DOC.md's rules for all layers

func TestDecodeAnswersNewMemory(t *testing.T) {
	s := strings.Repeat("plain", 3)
	if d := Decode(s, false); unsafe.StringData(d) == unsafe.StringData(s) {
		t.Error("the answer shares the argument's memory")
	}
	if Decode(s, false) != s || Decode(s, true) != s {
		t.Error("a text without & is itself")
	}
}

func TestLongTextsEnd(t *testing.T) {
	const n = 1 << 20
	for _, x := range []struct{ s, want string }{
		{strings.Repeat("&", n), strings.Repeat("&", n)}, {strings.Repeat("&#", n), strings.Repeat("&#", n)}, {strings.Repeat("&#x", n), strings.Repeat("&#x", n)},
		{"&#" + strings.Repeat("0", n) + "65;", "A"}, {"&#" + strings.Repeat("9", n), "\uFFFD"}, {"&" + strings.Repeat("a", n), "&" + strings.Repeat("a", n)}, {strings.Repeat("&amp", n), strings.Repeat("&", n)},
	} {
		if d := Decode(x.s, false); d != x.want {
			t.Errorf("%.20q: %d bytes, want %d", x.s, len(d), len(x.want))
		}
	}
}
