package serial

import (
	"math/rand"
	"strings"
	"testing"

	"selvedge/charref"
)

// holdEscaped holds both ways of escaping against the second account, and against what is decoded of them.
func holdEscaped(t *testing.T, s string) {
	t.Helper()
	if got := Escape(s); got != textSigns.Replace(s) || charref.Decode(got, false) != s {
		t.Fatalf("Escape(%s) = %s, want %s", brief(s), brief(got), brief(textSigns.Replace(s)))
	}
	if got := EscapeAttr(s); got != valueSigns.Replace(s) || charref.Decode(got, true) != s {
		t.Fatalf("EscapeAttr(%s) = %s, want %s", brief(s), brief(got), brief(valueSigns.Replace(s)))
	}
}

// P6.1

func TestEscapeByHand(t *testing.T) {
	for _, x := range []struct{ s, text, value string }{
		{"", "", ""},
		{"a < b & c", "a &lt; b &amp; c", "a < b &amp; c"},
		{"&", "&amp;", "&amp;"}, {"<", "&lt;", "<"}, {">", "&gt;", ">"}, {"\"", "\"", "&quot;"}, {"\u00A0", "&nbsp;", "&nbsp;"}, {"\r", "&#13;", "&#13;"},
		{"&&", "&amp;&amp;", "&amp;&amp;"}, {"<<>>", "&lt;&lt;&gt;&gt;", "<<>>"}, {"\"\"", "\"\"", "&quot;&quot;"}, {"\u00A0\u00A0", "&nbsp;&nbsp;", "&nbsp;&nbsp;"}, {"\r\r", "&#13;&#13;", "&#13;&#13;"},
		{"\r\n", "&#13;\n", "&#13;\n"}, {"\n\r", "\n&#13;", "\n&#13;"}, {"\n\t\f\v\b\x00\x1F\x7F", "\n\t\f\v\b\x00\x1F\x7F", "\n\t\f\v\b\x00\x1F\x7F"},
		{"&amp;", "&amp;amp;", "&amp;amp;"}, {"&lt;&nbsp;&#13;", "&amp;lt;&amp;nbsp;&amp;#13;", "&amp;lt;&amp;nbsp;&amp;#13;"}, {"&quot;", "&amp;quot;", "&amp;quot;"},
		{"'`=/ ;#", "'`=/ ;#", "'`=/ ;#"}, {"<p class=\"x\">y</p>", "&lt;p class=\"x\"&gt;y&lt;/p&gt;", "<p class=&quot;x&quot;>y</p>"},
		{"a&b<c>d\"e\u00A0f\rg", "a&amp;b&lt;c&gt;d\"e&nbsp;f&#13;g", "a&amp;b<c>d&quot;e&nbsp;f&#13;g"},
		{"\u05D0<\u05D1\u00A0\u05D2", "\u05D0&lt;\u05D1&nbsp;\u05D2", "\u05D0<\u05D1&nbsp;\u05D2"}, {"\U0001F600&\U0010FFFF", "\U0001F600&amp;\U0010FFFF", "\U0001F600&amp;\U0010FFFF"},
	} {
		if got := Escape(x.s); got != x.text {
			t.Errorf("Escape(%q) = %q, want %q", x.s, got, x.text)
		}
		if got := EscapeAttr(x.s); got != x.value {
			t.Errorf("EscapeAttr(%q) = %q, want %q", x.s, got, x.value)
		}
		holdEscaped(t, x.s)
	}
}

func TestEscapeOfBytesThatAreIllFormed(t *testing.T) {
	for s, escaped := range map[string]string{
		"\xC2": "\xC2", "\xA0": "\xA0", "\xA0\xC2": "\xA0\xC2", "\xC2x\xA0": "\xC2x\xA0", "\xC2\xC2": "\xC2\xC2", "\xA0\xA0": "\xA0\xA0",
		"\xC2\xC2\xA0": "\xC2&nbsp;", "\xC2\xA0\xA0": "&nbsp;\xA0", "\xC2\xA0\xC2\xA0": "&nbsp;&nbsp;", "\xC2\xA0\xC2": "&nbsp;\xC2", "\xC2\xC2\xA0\xA0": "\xC2&nbsp;\xA0",
		"\xE2\x82\xC2\xA0": "\xE2\x82&nbsp;", "\xF0\x9F\x98\xC2\xA0\x80": "\xF0\x9F\x98&nbsp;\x80", "\xE0\xC2\xA0": "\xE0&nbsp;", "\xE1\xA0\xC2\xA0": "\xE1\xA0&nbsp;", "\xF4\xC2\xA0\xA0": "\xF4&nbsp;\xA0", "\xFF\xC2\xA0\xFF": "\xFF&nbsp;\xFF",
		"\xC2\xA1\xC3\xA0": "\xC2\xA1\xC3\xA0", "\u0820\u1082\u10A0": "\u0820\u1082\u10A0", "\xC2\x9F\xC2\xA1": "\xC2\x9F\xC2\xA1", "\xE0\x82\xA0": "\xE0\x82\xA0", "\xF0\x80\x82\xA0": "\xF0\x80\x82\xA0", "\xC0\xA6\xC0\xBC": "\xC0\xA6\xC0\xBC",
		"\xC2&\xA0": "\xC2&amp;\xA0", "\xE2&": "\xE2&amp;", "\xE2\x82\r\xAC": "\xE2\x82&#13;\xAC", "\xED\xA0\x80": "\xED\xA0\x80", "\xFF\xFE\x80": "\xFF\xFE\x80", "a\xFFb&\xFF": "a\xFFb&amp;\xFF", "\xEF\xBF\xBD&\xEF\xBF": "\xEF\xBF\xBD&amp;\xEF\xBF",
	} {
		if got := Escape(s); got != escaped {
			t.Errorf("Escape(%q) = %q, want %q", s, got, escaped)
		}
		if got := EscapeAttr(s); got != escaped {
			t.Errorf("EscapeAttr(%q) = %q, want %q", s, got, escaped)
		}
	}
}

func TestEscapeOfEveryCharacter(t *testing.T) {
	for r := rune(0); r <= 0x10FFFF; r++ {
		holdEscaped(t, string(r))
		if r < 0x3000 {
			holdEscaped(t, "x"+string(r)+"y"+string(r)+string(r))
		}
	}
}

func TestEscapeOfAllPairsOfBytes(t *testing.T) {
	for x := range 256 {
		for y := range 256 {
			two := []byte{byte(x), byte(y)}
			for _, between := range []string{"", "\xC2", "\xA0", "\xC2\xA0", "&", "\""} {
				holdEscaped(t, string(two[:1])+between+string(two[1:]))
			}
		}
	}
}

func TestEscapeOfJumbles(t *testing.T) {
	const bytes = "&<>\"\r\n\xC2\xC2\xA0\xA0\xA1\xC3\xE2\x82\xF0\x9F\xFFa;\x00"
	source := rand.New(rand.NewSource(6))
	for range 50000 {
		b := make([]byte, source.Intn(12))
		for i := range b {
			b[i] = bytes[source.Intn(len(bytes))]
		}
		holdEscaped(t, string(b))
		holdEscaped(t, randomText(source))
	}
}

func TestEscapeOfLongTexts(t *testing.T) {
	const n = 1 << 17
	for _, s := range append(signs(), "\xC2", "\xA0", "\xFF", "\x00", "plain ") {
		holdEscaped(t, strings.Repeat(s, n/len(s)))
	}
}

func TestEscapeAnswersNewMemory(t *testing.T) {
	s := strings.Repeat("plain", 3)
	for _, escaped := range []string{Escape(s), EscapeAttr(s)} {
		if escaped != s || shares(escaped, s) {
			t.Errorf("%q shares the argument's memory", escaped)
		}
	}
	if a, b := Escape(s), EscapeAttr(s); shares(a, b) {
		t.Error("two answers share their memory")
	}
}
