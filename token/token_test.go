package token

import (
	"math/rand"
	"slices"
	"strconv"
	"strings"
	"testing"
	"unsafe"

	"selvedge/api"
	"selvedge/charref"
)

// P4.1: tokens

func TestExamples(t *testing.T) {
	wantTokens(t, `<P Class="a b" id=x>a < b</p>`, tag("p", "class", "a b", "id", "x"), text("a < b"), end("p"))
	wantTokens(t, "<br/><!-- x -->a", closed(tag("br")), comment(" x "), text("a"))
	wantError(t, "<br/><!-- x -->a<b", api.ErrTag, 16)
	wantTokens(t, "<!DOCTYPE html > 1 < 2", doctype("html"), text(" 1 < 2"))
	wantError(t, "</>", api.ErrTag, 0)
	wantError(t, "<p a a>", api.ErrAttr, 0)
	wantError(t, "<p a=>", api.ErrAttr, 0)
	wantError(t, "<?x?>", api.ErrMark, 0)
	wantError(t, "<!x>", api.ErrMark, 0)
}

func TestKinds(t *testing.T) {
	if Start != 1 || End != 2 || Text != 3 || Comment != 4 || Doctype != 5 {
		t.Error(Start, End, Text, Comment, Doctype)
	}
}

func TestTexts(t *testing.T) {
	wantTokens(t, "")
	for _, s := range []string{
		"a", " ", "<", "<<", "a<", "< p>", "<1>", "<=", "<>", "a < b > c", "<-", "<-->", "<&", "<\u05D0", "<\xFF", "\xFF\xE2\x82", ">", "-->", "/>", "\r\n\t\f", "<\t", "<@", "<[", "<`", "<{", "<.", "<0", "<:", "< /p>", "< !", "=\"'`",
	} {
		wantTokens(t, s, text(s))
	}
	for _, x := range [][2]string{
		{"a &amp; b", "a & b"}, {"&lt;p&gt;", "<p>"}, {"<&lt;", "<<"}, {"&copy=1&copyx", "\u00A9=1\u00A9x"}, {"&#60;b>", "<b>"}, {"&#0;", "\uFFFD"}, {"&amp;amp;", "&amp;"}, {"&notin", "\u00ACin"}, {"&#13;", "\r"},
	} {
		wantTokens(t, x[0], text(x[1]))
	}
}

func TestATextEndsWhereSomethingElseBegins(t *testing.T) {
	wantTokens(t, "<<p>", text("<"), tag("p"))
	wantTokens(t, "a<<b>c", text("a<"), tag("b"), text("c"))
	wantTokens(t, "x</p>y", text("x"), end("p"), text("y"))
	wantTokens(t, "x<!---->y", text("x"), comment(""), text("y"))
	wantTokens(t, "x<!doctype>y", text("x"), doctype(""), text("y"))
	wantTokens(t, "<p>></p>>", tag("p"), text(">"), end("p"), text(">"))
	wantTokens(t, "&lt<b>", text("<"), tag("b"))
	wantTokens(t, "&am<b>p;", text("&am"), tag("b"), text("p;"))
	wantTokens(t, "&<p>lt;", text("&"), tag("p"), text("lt;"))
	for _, x := range []struct {
		s string
		e api.Errno
	}{{"</", api.ErrTag}, {"</ p>", api.ErrTag}, {"</1>", api.ErrTag}, {"</<p>", api.ErrTag}, {"<!", api.ErrMark}, {"<! doctype>", api.ErrMark}, {"<?", api.ErrMark}} {
		wantError(t, "a < b"+x.s, x.e, 5)
	}
}

func TestWhatBeginsATag(t *testing.T) {
	for b := 1; b < 256; b++ {
		s := string([]byte{byte(b)})
		switch letter := b < 128 && tagName.MatchString(s) && !strings.Contains("0123456789", s); {
		case letter:
			wantTokens(t, "<"+s+">", tag(strings.ToLower(s)))
			wantTokens(t, "</"+s+">", end(strings.ToLower(s)))
			continue
		case s == "/":
			wantError(t, "<"+s+">", api.ErrTag, 0)
		case s == "!", s == "?":
			wantError(t, "<"+s+">", api.ErrMark, 0)
		case s == "&":
			wantTokens(t, "<&lt;", text("<<"))
		default:
			wantTokens(t, "<"+s, text("<"+s))
		}
		wantError(t, "</"+s+">", api.ErrTag, 0)
	}
}

func TestTagNames(t *testing.T) {
	wantTokens(t, "<p>", tag("p"))
	wantTokens(t, "</P>", end("p"))
	wantTokens(t, "<H1></h1>", tag("h1"), end("h1"))
	wantTokens(t, "<aBcXYZ019>", tag("abcxyz019"))
	wantTokens(t, "<p><q></q></p>", tag("p"), tag("q"), end("q"), end("p"))
	wantTokens(t, "</p ></p\n\t\f >", end("p"), end("p"))
	wantTokens(t, "<"+strings.Repeat("Q", 1000)+">", tag(strings.Repeat("q", 1000)))
	wantTokens(t, "<p><\t", tag("p"), text("<\t"))
	for b := 1; b < 256; b++ {
		s := string([]byte{byte(b)})
		switch {
		case strings.Contains(blanks, s):
			wantTokens(t, "<p"+s+">", tag("p"))
			wantTokens(t, "</p"+s+">", end("p"))
			wantTokens(t, "<p"+s+"a"+s+s+"="+s+"b"+s+"c"+s+">", tag("p", "a", "b", "c", ""))
		case s == ">":
			wantTokens(t, "<p"+s+">", tag("p"), text(">"))
		case s == "/":
			wantTokens(t, "<p"+s+">", closed(tag("p")))
			wantError(t, "</p"+s+">", api.ErrTag, 0)
		case b < 128 && tagName.MatchString(s):
			wantTokens(t, "<p"+s+">", tag("p"+strings.ToLower(s)))
			wantTokens(t, "</p"+s+">", end("p"+strings.ToLower(s)))
		default:
			wantError(t, "<p"+s+">", api.ErrTag, 0)
			wantError(t, "</p"+s+">", api.ErrTag, 0)
			wantError(t, "x<p"+s, api.ErrTag, 1)
		}
	}
}

func TestSelfClosed(t *testing.T) {
	wantTokens(t, "<br/><br /><br\n/>", closed(tag("br")), closed(tag("br")), closed(tag("br")))
	wantTokens(t, "<p a/>", closed(tag("p", "a", "")))
	wantTokens(t, "<p a />", closed(tag("p", "a", "")))
	wantTokens(t, `<p a="b"/>`, closed(tag("p", "a", "b")))
	wantTokens(t, "<p a='b' />", closed(tag("p", "a", "b")))
	wantTokens(t, "<p a=b />", closed(tag("p", "a", "b")))
	wantTokens(t, "<p a=b/>", tag("p", "a", "b/"))
	wantTokens(t, "<p a=/>", tag("p", "a", "/"))
	for _, s := range []string{"<p / >", "<p/ >", "<p//>", "<p/a>", "<p a/b>", "<p a /b/>", "<p /=a>", "<p/", "<p /", "<p a/", "<p a='b'/ >", "<p a= b /c>", "<p/<b>"} {
		wantError(t, s, api.ErrTag, 0)
	}
}

func TestAttributes(t *testing.T) {
	wantTokens(t, "<p a b = 'c' d>", tag("p", "a", "", "b", "c", "d", ""))
	wantTokens(t, "<p a>", tag("p", "a", ""))
	wantTokens(t, "<p a \n\f\t>", tag("p", "a", ""))
	wantTokens(t, `<p a="">`, tag("p", "a", ""))
	wantTokens(t, "<p a=''b>", tag("p", "a", "", "b", ""))
	wantTokens(t, `<p a="1"b='2'c=3 d>`, tag("p", "a", "1", "b", "2", "c", "3", "d", ""))
	wantTokens(t, "<p a\n=\t'1'\fb =2>", tag("p", "a", "1", "b", "2"))
	wantTokens(t, "<p DIR=RTL Data-X_9=Y -=1 _=2 0=3>", tag("p", "dir", "RTL", "data-x_9", "Y", "-", "1", "_", "2", "0", "3"))
	wantTokens(t, "<p z y x>", tag("p", "z", "", "y", "", "x", ""))
	wantTokens(t, "<p a aa aaa>", tag("p", "a", "", "aa", "", "aaa", ""))
	wantTokens(t, "<p\na>x", tag("p", "a", ""), text("x"))
	for b := 1; b < 256; b++ {
		s := string([]byte{byte(b)})
		switch {
		case strings.Contains(blanks+"=/>", s):
			check(t, "<p a"+s+">")
			check(t, "<p "+s+"a>")
		case b < 128 && attrName.MatchString(s):
			wantTokens(t, "<p a"+s+">", tag("p", "a"+strings.ToLower(s), ""))
			wantTokens(t, "<p "+s+"b=c>", tag("p", strings.ToLower(s)+"b", "c"))
		default:
			wantError(t, "<p a"+s+">", api.ErrAttr, 0)
			wantError(t, "<p "+s+"a=b>", api.ErrAttr, 0)
			wantError(t, "</p a"+s+">", api.ErrAttr, 0)
		}
	}
}

func TestQuotedValues(t *testing.T) {
	for b := 1; b < 256; b++ {
		s := string([]byte{byte(b)})
		if s != `"` {
			wantTokens(t, `<p a="x`+s+`y">z`, tag("p", "a", "x"+s+"y"), text("z"))
			wantTokens(t, `<p a="`+s+`">z`, tag("p", "a", s), text("z"))
		}
		if s != "'" {
			wantTokens(t, `<p a='x`+s+`y'>z`, tag("p", "a", "x"+s+"y"), text("z"))
			wantTokens(t, `<p a='`+s+`'>z`, tag("p", "a", s), text("z"))
		}
	}
	wantTokens(t, `<p a="</p>" b='<!-- -->'>`, tag("p", "a", "</p>", "b", "<!-- -->"))
	wantTokens(t, `<p a="'" b='"'>`, tag("p", "a", "'", "b", `"`))
	wantTokens(t, `<p a="&quot;&#39;">`, tag("p", "a", `"'`))
	for _, s := range []string{`<p a=">`, `<p a='>`, `<p a="'>`, `<p a='">`, `<p a= "b>c</p>`, `<p a="`, "<p a='", `<p a="b" c='>`, `</p a=">`} {
		wantError(t, s, api.ErrAttr, 0)
	}
}

func TestBareValues(t *testing.T) {
	for b := 1; b < 256; b++ {
		s := string([]byte{byte(b)})
		switch {
		case strings.Contains(blanks, s):
			wantTokens(t, "<p a="+s+"y"+s+"z>", tag("p", "a", "y", "z", ""))
		case s == ">":
			wantTokens(t, "<p a=x"+s+"y>", tag("p", "a", "x"), text("y>"))
		case strings.Contains("\"'<=`", s):
			wantError(t, "<p a=x"+s+">", api.ErrAttr, 0)
			wantError(t, "<p a=x"+s+"y>", api.ErrAttr, 0)
			wantError(t, "<p a="+s, api.ErrAttr, 0)
		default:
			wantTokens(t, "<p a="+s+">", tag("p", "a", s))
			wantTokens(t, "<p a=x"+s+"y b>", tag("p", "a", "x"+s+"y", "b", ""))
		}
	}
	for _, s := range []string{"<p a=>", "<p a= >", "<p a=\t\n>", "<p a = >", "<p b a=>", "<p a==b>", "<p a= =b>", "</p a=>"} {
		wantError(t, s, api.ErrAttr, 0)
	}
}

func TestValuesAreDecodedAsAttributes(t *testing.T) {
	for _, x := range [][2]string{
		{"&amp;", "&"}, {"&copy", "\u00A9"}, {"&copyx", "&copyx"}, {"&copy;x", "\u00A9x"}, {"&#65;&#x42", "AB"}, {"&notin;&notin", "\u2209&notin"}, {"&amp;amp;", "&amp;"}, {"&#0;", "\uFFFD"}, {"&unknown;", "&unknown;"},
	} {
		wantTokens(t, `<p a="`+x[0]+`">`, tag("p", "a", x[1]))
		wantTokens(t, "<p a='"+x[0]+"'>", tag("p", "a", x[1]))
		wantTokens(t, "<p a="+x[0]+">", tag("p", "a", x[1]))
	}
	wantTokens(t, `<p a="&copy=1">`, tag("p", "a", "&copy=1"))
	wantTokens(t, `<p a="&copy" b='&copy'>`, tag("p", "a", "\u00A9", "b", "\u00A9"))
	// what may not stand in a value without quotes may come of a reference
	wantTokens(t, "<p a=&lt;&quot;&apos;&#61;&#96;&gt;&#32;>", tag("p", "a", "<\"'=`> "))
	// names are no text
	wantError(t, "<p &amp;>", api.ErrAttr, 0)
	wantError(t, "<p&amp;>", api.ErrTag, 0)
}

func TestComments(t *testing.T) {
	for _, data := range []string{
		"", " ", "-", "a", "a-", "-a", "--a", "a--b", "<", "<!", "<!a", "a<!", "<!-a", "!", "--!", "a--!", "a>b", "a->b", " >", " ->", "<p>", "</p>", "&amp;", "- ->", "<!doctype>", "\xFF\u05D0", "\n", "-!>", "--! >", "<!- -", "!>", "< !--", "<-",
	} {
		wantTokens(t, "<!--"+data+"-->", comment(data))
		wantTokens(t, "a<!--"+data+"-->-->", text("a"), comment(data), text("-->"))
		wantTokens(t, "<!--"+data+"--><!--"+data+"-->", comment(data), comment(data))
	}
	for _, data := range []string{">", "->", ">a", "->a", "> ", "--!>", "a--!>b", "<!--", "a<!--b", "<!-- ", "<!-", "a<!-", "---!>", "<<!--", "--!>a<!--"} {
		wantError(t, "<!--"+data+"-->", api.ErrMark, 0)
		wantError(t, "ab<!--"+data+"-->c", api.ErrMark, 2)
	}
	for _, s := range []string{"<!--", "<!---", "<!----", "<!-->", "<!--->", "<!-- a", "<!-- a --", "<!-- a ->", "<!-- a --!>", "<!--a-- >", "<!-", "<!-a-->", "<!- -->", "<! -- -->"} {
		wantError(t, s, api.ErrMark, 0)
		wantError(t, "x"+s, api.ErrMark, 1)
	}
}

func TestDoctypes(t *testing.T) {
	for _, x := range [][2]string{
		{"", ""}, {" ", ""}, {" html", "html"}, {"html", "html"}, {" \t\n\fhtml\f\n\t ", "html"}, {" HTML a  b ", "HTML a  b"}, {" html \"x\" 'y'", "html \"x\" 'y'"}, {" &amp; ", "&amp;"}, {" <p", "<p"},
		{"\r", "\r"}, {"\v\u00A0", "\v\u00A0"}, {"--", "--"}, {" \xFF", "\xFF"}, {"/", "/"},
	} {
		for _, word := range []string{"<!doctype", "<!DOCTYPE", "<!DocType", "<!dOCTYPe"} {
			wantTokens(t, word+x[0]+">", doctype(x[1]))
			wantTokens(t, "a"+word+x[0]+">>", text("a"), doctype(x[1]), text(">"))
		}
	}
	wantTokens(t, "<p><!doctype a><!doctype b>", tag("p"), doctype("a"), doctype("b"))
	for _, s := range []string{"<!doctype", "<!DOCTYPE html", "<!doctype <p", "<!doctyp", "<!doctyp>", "<!doctyp html>", "<!d\u043Ectype>", "<!", "<!>", "<!!doctype>", "<! doctype>", "<!d", "<!ELEMENT p>", "<![CDATA[x]]>", "<?", "<?xml?>", "<?>", "<??"} {
		wantError(t, s, api.ErrMark, 0)
		wantError(t, "<br>"+s, api.ErrMark, 4)
	}
}

// P4.1: errors

func TestTagsWithoutAnEnd(t *testing.T) {
	for _, s := range []string{"<p", "<P", "<p ", "<p\n", "<p a", "<p a ", "<p a b", "<p a=b", "<p a=b ", "<p a='b'", "<p a='b' ", "<p a=b/", "</p", "</p ", "</p a", "</p a=b", "<p a 1"} {
		wantError(t, s, api.ErrTag, 0)
		wantError(t, "ab<i>"+s, api.ErrTag, 5)
	}
}

func TestEndTags(t *testing.T) {
	for _, s := range []string{"</p a>", "</p a=b>", "</p/>", "</p />", "</p a/>", "</p a='b' c>", "</p / >", "</p-q>", "</p.>", "</\u05D0>", "</\u00E9>", "</>", "</ >", "</", "</&", "</-"} {
		wantError(t, s, api.ErrTag, 0)
		wantError(t, "<p>x"+s, api.ErrTag, 4)
	}
}

// names tells n attributes.
func names(n int) string {
	s := ""
	for i := range n {
		s += " a" + strconv.Itoa(i)
	}
	return s
}

func TestSixteenAttributes(t *testing.T) {
	if api.MaxAttrs != 16 {
		t.Fatal(api.MaxAttrs)
	}
	l, e, _ := Tokens("<p" + names(16) + ">")
	if len(l) != 1 || len(l[0].Attrs) != 16 || l[0].Attrs[15].Name != "a15" || e != api.OK {
		t.Errorf("%s, %d", show(l), e)
	}
	check(t, "<p"+names(16)+">")
	wantError(t, "<p"+names(17)+">", api.ErrLimit, 0)
	wantError(t, "x<p"+names(40)+">", api.ErrLimit, 1)
	check(t, "<p"+names(16)+"><p"+names(16)+"/>") // of one tag
}

func TestWhatComesFirstCounts(t *testing.T) {
	for _, x := range []struct {
		s string
		e api.Errno
	}{
		// read from the beginning
		{"<p-q a=>", api.ErrTag}, {"<p. a a>", api.ErrTag}, {"<p / a=>", api.ErrTag}, {"<p a=> / >", api.ErrAttr}, {"<p a a / >", api.ErrAttr}, {"<p . / >", api.ErrAttr}, {"<p / .>", api.ErrTag},
		{"<p .", api.ErrAttr}, {"<p a=", api.ErrAttr}, {"<p a= ", api.ErrAttr}, {"<p a=<", api.ErrAttr}, {"<p a a", api.ErrAttr}, {"<p a A", api.ErrAttr}, {`<p a="`, api.ErrAttr}, {"<p =", api.ErrAttr}, {"<p a =", api.ErrAttr},
		{"<p =a>", api.ErrAttr}, {"<p a= = >", api.ErrAttr}, {"<p a='x' = >", api.ErrAttr}, {"<p a=b =c>", api.ErrAttr}, {"<p a. a=/", api.ErrAttr},
		// two of one name; small
		{"<p a a>", api.ErrAttr}, {"<p a b a>", api.ErrAttr}, {"<p a=1 A=2>", api.ErrAttr}, {"<p Aa aA/>", api.ErrAttr}, {"<p a-b A-B>", api.ErrAttr}, {"<p a a=>", api.ErrAttr},
		// sixteen, and what is wrong with the next one
		{"<p" + names(17), api.ErrLimit}, {"<p" + names(17) + " / >", api.ErrLimit}, {"<p" + names(18) + " a0>", api.ErrLimit}, {"<p" + names(17) + " .>", api.ErrLimit}, {"<p" + names(17) + " a=>", api.ErrLimit},
		{"<p" + names(16) + " a0>", api.ErrAttr}, {"<p" + names(16) + " A15>", api.ErrAttr}, {"<p" + names(16) + " .>", api.ErrAttr}, {"<p" + names(16) + " b=>", api.ErrAttr}, {"<p" + names(16) + " b=\">", api.ErrAttr}, {"<p" + names(16) + " a0=>", api.ErrAttr},
		{"<p" + names(16) + " a16=x>", api.ErrLimit}, {"<p" + names(16) + " / >", api.ErrTag}, {"<p" + names(16), api.ErrTag}, {"<p / " + names(17) + ">", api.ErrTag},
		// an end tag's own only at its end
		{"</p a=>", api.ErrAttr}, {"</p a a>", api.ErrAttr}, {"</p a .>", api.ErrAttr}, {"</p" + names(17) + ">", api.ErrLimit}, {"</p" + names(16) + ">", api.ErrTag}, {"</p" + names(16) + " a0>", api.ErrAttr}, {"</p a / b=>", api.ErrTag}, {"</p a=/>", api.ErrTag},
		// the first token's
		{"<p a=><!x>", api.ErrAttr}, {"<!x><p a=>", api.ErrMark}, {"</><p a=>", api.ErrTag}, {"<?x?></>", api.ErrMark},
	} {
		wantError(t, x.s, x.e, 0)
		wantError(t, "a&amp;b<b>"+x.s, x.e, 10)
	}
}

func TestNullComesAheadOfTokens(t *testing.T) {
	for _, x := range []struct {
		s  string
		at int
	}{{"\x00", 0}, {"ab\x00<", 2}, {"a\x00\x00", 1}, {"<p a=><!x>\x00", 10}, {"<p \x00>", 3}, {"<!--\x00-->", 4}, {"<p a='\x00'>\x00", 6}, {"<!doctype \x00>", 10}, {"</\x00", 2}, {strings.Repeat("<", 65535) + "\x00", 65535}} {
		wantError(t, x.s, api.ErrNull, x.at)
	}
}

func TestBytesOfADocument(t *testing.T) {
	if api.MaxBytes != 65536 {
		t.Fatal(api.MaxBytes)
	}
	full := strings.Repeat("a", 65536)
	if l, e, at := Tokens(full); show(l) != show([]Token{text(full)}) || e != api.OK || at != 0 {
		t.Errorf("65536 bytes: %d tokens, %d at %d", len(l), e, at)
	}
	for _, s := range []string{full + "a", "\x00" + full, full + "\x00", "<p a=>" + full, "</>" + full, strings.Repeat("\u05D0", 32768) + "a", strings.Repeat("<p>", 30000)} {
		if l, e, at := Tokens(s); len(l) != 0 || e != api.ErrLimit || at != 0 {
			t.Errorf("%d bytes %.9q: %d tokens, %d at %d", len(s), s, len(l), e, at)
		}
	}
	if l, e, at := Tokens(full[:65534] + "<p"); len(l) != 0 || e != api.ErrTag || at != 65534 {
		t.Errorf("%d tokens, %d at %d", len(l), e, at)
	}
}

func TestLongDocumentsEnd(t *testing.T) {
	for _, unit := range []string{"<", "<p>", "</p>", "<!---->", "<!doctype>", "a<b>", "<!--", "<p ", "<p a='", "&lt", "<p a=\"<!--\">", "a ", "<a/>", "--!>", "<!-- --!", "\t"} {
		s := strings.Repeat(unit, api.MaxBytes/len(unit))
		check(t, s)
		for _, begin := range []string{"<p ", "<p a=", "<p a='", "</p", "<!--", "<!doctype "} {
			check(t, begin+s[:len(s)-len(begin)])
		}
	}
}

// P4.1 as a whole: documents of all kinds of parts, held against the second account

func parts() []string {
	return []string{
		"<", "</", "<!", "<?", "<!--", "-->", "--!>", "->", "-", "!", ">", ">", "/>", "/", "<p", "<P ", "</p", "</p>", "<br/>", "<p>", "<b a=1>", "<!doctype", "<!DOCTYPE html>", "<!-- -->",
		" ", " ", "\n", "\f", "\r", "=", "= ", "=x", "='", "=\"", "\"", "'", "`", "a", " a", " A", " b", " c=d", " c='d'", " c=\"d\"", "-x", "_", "7", "&", "&amp;", "&lt", "&copy", ";", "\u05D0", "\xFF", "x<y", "1 < 2",
	}
}

func TestAllShortDocuments(t *testing.T) {
	list := parts()
	for _, x := range list {
		check(t, x)
		for _, y := range list {
			check(t, x+y)
			for _, z := range list {
				check(t, x+y+z)
			}
		}
	}
}

func TestAllShortTags(t *testing.T) {
	list := []string{" ", "a", "b", "=", "=c", "='", "'", "\"", "/", ">", "<", "-"}
	for _, begin := range []string{"<p", "<p ", "</p", "</p "} {
		for _, w := range list {
			for _, x := range list {
				for _, y := range list {
					for _, z := range list {
						check(t, begin+w+x+y+z)
						check(t, begin+w+x+y+z+">")
					}
				}
			}
		}
	}
}

func TestAllShortComments(t *testing.T) {
	const signs = "<!->a"
	for n := range 5 * 5 * 5 * 5 * 5 * 5 {
		data := ""
		for range 6 {
			data, n = data+signs[n%5:n%5+1], n/5
		}
		check(t, "<!--"+data+"-->")
		check(t, "<!-"+data)
	}
}

// jumble tells documents in which parts of all kinds stand beside one another: the same ones at each run.
func jumble(hand func(string)) {
	list := parts()
	source := rand.New(rand.NewSource(4))
	for range 50000 {
		s := ""
		for range source.Intn(16) {
			s += list[source.Intn(len(list))]
		}
		hand(s)
	}
}

func TestJumbles(t *testing.T) {
	jumble(func(s string) { check(t, s) })
}

// wholes tells documents of parts that are tokens, so that most have no error: the same ones at each run.
func wholes(hand func(string)) {
	list := []string{"<p>", "<P>", "</p>", "<br/>", "<b A=1 b='2' C=\"3\">", "<i a = &lt;>", "<u a/>", "</U >", "<!-- <p> -->", "<!---->", "<!DOCTYPE html>", "a", " ", "<", "&amp;", "&lt", "1 < 2", ">", "\u05D0", "\xFF", "<1", "\n"}
	source := rand.New(rand.NewSource(44))
	for range 20000 {
		s := ""
		for range source.Intn(20) {
			s += list[source.Intn(len(list))]
		}
		hand(s)
	}
}

func TestWholes(t *testing.T) {
	wholes(func(s string) { check(t, s) })
}

// P4.2

// stringsOf tells all strings of tokens.
func stringsOf(l []Token) []string {
	var out []string
	for _, t := range l {
		out = append(out, t.Name, t.Data)
		for _, a := range t.Attrs {
			out = append(out, a.Name, a.Value)
		}
	}
	return slices.DeleteFunc(out, func(s string) bool { return len(s) < 2 }) // the run time has one memory for all short ones
}

// overlap tells whether two texts share memory.
func overlap(a, b string) bool {
	x, y := uintptr(unsafe.Pointer(unsafe.StringData(a))), uintptr(unsafe.Pointer(unsafe.StringData(b)))
	return x < y+uintptr(len(b)) && y < x+uintptr(len(a))
}

func TestAnswersAreNewMemory(t *testing.T) {
	const s = "<!doctype html><!-- aa --><em class='bb' id=cc dd>text &amp;</em><EM CLASS='bb' ID=cc dd>text &amp;</EM><br/><!-- aa -->"
	first, _, _ := Tokens(s)
	second, _, _ := Tokens(s)
	before := show(second)
	one, two := stringsOf(first), stringsOf(second)
	for i, x := range one {
		if overlap(x, s) {
			t.Errorf("%q is a part of the document's memory", x)
		}
		for j, y := range one {
			if i != j && overlap(x, y) {
				t.Errorf("%q and %q share memory", x, y)
			}
		}
		for _, y := range two {
			if overlap(x, y) {
				t.Errorf("%q shares memory with another answer", x)
			}
		}
	}
	for _, x := range first {
		clear(x.Attrs[:cap(x.Attrs)])
	}
	clear(first[:cap(first)])
	if show(second) != before {
		t.Errorf("%s became %s", before, show(second))
	}
}

func TestAttributesOfTokensAreApart(t *testing.T) {
	l, _, _ := Tokens("<p a=1 b=2 c=3><p d=4 e=5><p f=6>")
	for i := range l {
		rest := slices.Concat(l[:i], l[i+1:])
		before := show(rest)
		_ = append(l[i].Attrs, api.Attr{Name: "more"})
		clear(l[i].Attrs)
		if show(rest) != before {
			t.Errorf("%s became %s", before, show(rest))
		}
	}
}

// P4.3

// checkWhole holds the tokens of a document against what is promised of all.
func checkWhole(t *testing.T, s string) {
	l, _, _ := Tokens(s)
	for i, x := range l {
		if x.Kind == Text && (x.Data == "" || i > 0 && l[i-1].Kind == Text) {
			t.Fatalf("%q has two texts that touch, or an empty one: %s", s, show(l))
		}
		seen := map[string]bool{}
		for _, a := range x.Attrs {
			if seen[a.Name] || a.Name == "" || strings.ContainsAny(a.Name, "ABCDEFGHIJKLMNOPQRSTUVWXYZ") {
				t.Fatalf("%q has the attribute %q: %s", s, a.Name, show(l))
			}
			seen[a.Name] = true
		}
		if strings.ContainsAny(x.Name, "ABCDEFGHIJKLMNOPQRSTUVWXYZ") {
			t.Fatalf("%q has the name %q", s, x.Name)
		}
	}
}

func TestWhatIsPromisedOfAllTokens(t *testing.T) {
	jumble(func(s string) { checkWhole(t, s) })
	wholes(func(s string) { checkWhole(t, s) })
}

func TestPlainTextsAreOneToken(t *testing.T) {
	plain := strings.NewReplacer("<", "", "&", "", "\x00", "")
	hold := func(s string) {
		l, e, at := Tokens(s)
		if s == "" && len(l) == 0 && e == api.OK && at == 0 {
			return
		}
		if show(l) != show([]Token{text(s)}) || e != api.OK || at != 0 {
			t.Fatalf("%q is %s, %d at %d", s, show(l), e, at)
		}
	}
	hold("")
	jumble(func(s string) { hold(plain.Replace(s)) })
	all := ""
	for b := range 256 {
		all += string([]byte{byte(b)})
	}
	hold(plain.Replace(all))
}

func TestTextsAreDecodedWhole(t *testing.T) {
	jumble(func(s string) {
		s = strings.ReplaceAll(s, "<", "")
		if l, e, _ := Tokens(s); s != "" && (len(l) != 1 || l[0].Data != charref.Decode(s, false) || e != api.OK) {
			t.Fatalf("%q is %s, %d", s, show(l), e)
		}
	})
}
