package serial

import (
	"math/rand"
	"slices"
	"strconv"
	"strings"
	"testing"

	"selvedge/api"
	"selvedge/tree"
)

// holdIfRight holds a tree that is right against what is parsed of its document, and tells whether it is.
func holdIfRight(t *testing.T, list ...branch) bool {
	t.Helper()
	u := grow(list...)
	if tree.Right(u) != api.OK {
		holdError(t, u, api.ErrTree)
		return false
	}
	holdRound(t, u)
	return true
}

// P6.3, P0.4

func TestTreesOfFewElementsAreParsedAgain(t *testing.T) {
	right := 0
	count := func(ok bool) {
		if ok {
			right++
		}
	}
	all := elements()
	for _, x := range all {
		for _, y := range all {
			count(holdIfRight(t, elem(x, elem(y))))
			count(holdIfRight(t, elem(x), elem(y)))
			count(holdIfRight(t, elem(x, words("a")), elem(y), words("b")))
			count(holdIfRight(t, words("a"), elem(x, words("b"), elem(y, words("c")), words("d")), words("e")))
		}
	}
	some := []string{"div", "ul", "p", "li", "h1", "b", "a", "br", "hr"}
	for _, w := range some {
		for _, x := range some {
			for _, y := range some {
				for _, z := range some {
					count(holdIfRight(t, elem(w, elem(x, elem(y, elem(z))))))
					count(holdIfRight(t, elem(w, elem(x)), elem(y, elem(z), words("\n"))))
					count(holdIfRight(t, elem(w, elem(x), elem(y, words(" "))), elem(z)))
				}
			}
		}
	}
	if right < 10000 {
		t.Errorf("only %d trees are right", right)
	}
}

func TestTreesAtTheirLimitsAreParsedAgain(t *testing.T) {
	for _, name := range []string{"b", "div", "span", "section"} {
		holdRound(t, grow(nest(words("a"), slices.Repeat([]string{name}, 200)...)))
		holdRound(t, grow(nest(elem("br"), slices.Repeat([]string{name}, 199)...)))
	}
	holdRound(t, grow(nest(elem("p", words("a")), slices.Repeat([]string{"ul", "li"}, 99)...)))
	holdRound(t, grow(slices.Repeat([]branch{elem("br")}, 16383)...))
	holdRound(t, grow(slices.Repeat([]branch{words("a"), elem("br")}, 8191)...))
	b := elem("b", words("x"))
	for i := range 16 {
		b = b.with("-_"+strconv.Itoa(i), signs()[i])
	}
	holdRound(t, grow(b, elem("p", b)))
}

func TestSignsAreParsedAgain(t *testing.T) {
	for _, s := range signs() {
		for _, other := range signs() {
			holdRound(t, grow(words(s+other)))
			holdRound(t, grow(words(s), elem("b", words(other)), words(s)))
			holdRound(t, grow(elem("p", words("x")).with("id", s+other), elem("hr").with("a", s, "b", other)))
		}
	}
}

func TestRandomTreesAreParsedAgain(t *testing.T) {
	source := rand.New(rand.NewSource(666))
	nodes := 0
	for range 10000 {
		u := randomTree(source)
		nodes += len(u)
		holdRound(t, u)
	}
	if nodes < 60000 {
		t.Errorf("only %d nodes in all", nodes)
	}
}

// holdParsed holds what is parsed of a document against what is parsed of its tree's document.
func holdParsed(t *testing.T, s string) bool {
	t.Helper()
	u, e, _ := tree.Parse([]byte(s))
	if e == api.OK {
		holdRound(t, u)
	}
	return e == api.OK
}

func TestWhatWasParsedIsSerialized(t *testing.T) {
	for s, document := range map[string]string{
		"<p>a<p>b":                               "<p>a</p><p>b</p>",
		"<UL><LI>a<li>b</ul>":                    "<ul><li>a</li><li>b</li></ul>",
		"<!doctype html>\r\n<p>a<!-- x -->b":     "\n<p>ab</p>",
		"<p title='a\r\n&#13;'>a\rb<p>c":         "<p title=\"a\n&#13;\">a\nb</p><p>c</p>",
		"<br/><hr id=x><wbr />":                  "<br><hr id=\"x\"><wbr>",
		"&<!-- -->amp; &amp;lt; a < b":           "&amp;amp; &amp;lt; a &lt; b",
		"<b a B=c D='\"' e=\"'\">&nbsp;&copy":    "<b a=\"\" b=\"c\" d=\"&quot;\" e=\"'\">&nbsp;\u00A9</b>",
		"<b>\xFF\xC2</b>&#xA0;\xC2\xA0&#0;&#128": "<b>\uFFFD\uFFFD</b>&nbsp;&nbsp;\uFFFD\u20AC",
		"":                                       "",
	} {
		u, e, _ := tree.Parse([]byte(s))
		if e != api.OK {
			t.Fatalf("%q is not parsed: %d", s, e)
		}
		holdDocument(t, u, document)
		holdParsed(t, s)
		holdParsed(t, document)
	}
}

func TestWhatWasParsedMayBeTooLong(t *testing.T) {
	for _, s := range []string{strings.Repeat("&", 65536), strings.Repeat("<p>", 16383), strings.Repeat("<b>", 200) + strings.Repeat("x>", 32000), strings.Repeat("\u00A0", 32768), "<b id='" + strings.Repeat("\"", 65000) + "'>"} {
		u, e, _ := tree.Parse([]byte(s))
		if e != api.OK {
			t.Fatalf("%s: %d", brief(s), e)
		}
		holdError(t, u, api.ErrLimit)
	}
}

func TestRandomDocumentsAreParsedAgain(t *testing.T) {
	parts := []string{"<p>", "</p>", "<ul>", "</ul>", "<li>", "</li>", "<div id=a>", "</div>", "<H1 Class='&#0; &amp;'>", "</h1>", "<b a=1 B=\"\xFF\">", "</b>", "<a x=\"\r\n&#13;\xA0\xC2\xA0\">", "</a>", "<br/>", "<hr>", "a", "&#xD800;", "\xFF", "\r\n", "\r", "&#13;", "&lt", "&", "amp;", "<!-- -->", "\u05D0", "\u00A0", ">", "\"", "<bdi>", "</bdi>"}
	source := rand.New(rand.NewSource(6666))
	for range 30000 {
		s := ""
		for range source.Intn(14) {
			part := parts[source.Intn(len(parts))]
			if _, e, _ := tree.Parse([]byte(s + part)); e == api.OK {
				s += part
			}
		}
		if !holdParsed(t, s) {
			t.Fatalf("%q is not parsed", s)
		}
	}
}

// holdContent holds a text, escaped, as the content of elements, against just that text.
func holdContent(t *testing.T, s string, names ...string) {
	t.Helper()
	for _, name := range names {
		u, e, _ := tree.Parse([]byte("<" + name + ">" + Escape(s) + "</" + name + ">"))
		if e != api.OK || !same(u, grow(elem(name, words(s)))) {
			t.Fatalf("%s escaped in %s is parsed as %s, %d", brief(s), name, brief(u), e)
		}
	}
	u, e, _ := tree.Parse([]byte(Escape(s)))
	if e != api.OK || !same(u, grow(words(s))) {
		t.Fatalf("%s escaped is parsed as %s, %d", brief(s), brief(u), e)
	}
	u, e, _ = tree.Parse([]byte("<b id=\"" + EscapeAttr(s) + "\">"))
	if e != api.OK || !same(u, grow(elem("b").with("id", s))) {
		t.Fatalf("%s escaped as a value is parsed as %s, %d", brief(s), brief(u), e)
	}
}

func TestTextsAreJustThatTextInEveryElement(t *testing.T) {
	full := elements()[:38] // the last three are void
	for _, s := range signs() {
		holdContent(t, s, full...)
		holdContent(t, " "+s+s+"\n", full...)
	}
	source := rand.New(rand.NewSource(66666))
	for range 20000 {
		holdContent(t, randomText(source), full[source.Intn(len(full))])
	}
}

func TestEveryCharacterIsATextOfItsOwn(t *testing.T) {
	var row []rune
	for r := rune(1); r <= 0x10FFFF; r++ {
		if r >= 0xD800 && r <= 0xDFFF {
			continue
		}
		if r < 0x3000 {
			holdContent(t, string(r), "p")
		}
		if row = append(row, r); len(row) == 8000 || r == 0x10FFFF {
			holdContent(t, string(row), "div")
			row = row[:0]
		}
	}
}
