package csstok

import (
	"slices"
	"strings"
	"testing"
)

// P7.1

func TestKindsAreNumberedFromOneOn(t *testing.T) {
	for i, kind := range []uint8{White, Ident, Func, At, Hash, Text, Bad, Number, Percent, Measure, Sign, Delim, Open, Close} {
		if int(kind) != i+1 {
			t.Errorf("the kind %d is %d", i+1, kind)
		}
	}
}

func TestTokensOfTheExamples(t *testing.T) {
	holdTokens(t, `a-b(1.5e3px, "x\22" )`, function("a-b"), measure("1.5e3", "px"), sign(","), white, text(`x"`), white, sign(")"))
	holdTokens(t, `#1a #\31 a @media --> -1% +.5`, hash("1a"), white, id("1a"), white, at("media"), white, closeMark, white, percent("-1"), white, num("+.5"))
	holdTokens(t, "\"a\n b/* */c", bad("a"), white, ident("b"), ident("c"))
	holdTokens(t, "1e 1e3 1e-x \\\n", measure("1", "e"), white, num("1e3"), white, measure("1", "e-x"), white, delim(`\`), white)
}

func TestTokensOfASheet(t *testing.T) {
	holdTokens(t, "p > .a, #b[dir=\"rtl\"] { margin: 1.5em -2px!important; x: url(a.b) 50% }",
		ident("p"), white, delim(">"), white, delim("."), ident("a"), sign(","), white, id("b"), sign("["), ident("dir"), delim("="), text("rtl"), sign("]"), white, sign("{"), white,
		ident("margin"), sign(":"), white, measure("1.5", "em"), white, measure("-2", "px"), delim("!"), ident("important"), sign(";"), white,
		ident("x"), sign(":"), white, function("url"), ident("a"), delim("."), ident("b"), sign(")"), white, percent("50"), white, sign("}"))
	holdTokens(t, "@media(min-width:1px)and{a{}}", at("media"), sign("("), ident("min-width"), sign(":"), measure("1", "px"), sign(")"), ident("and"), sign("{"), ident("a"), sign("{"), sign("}"), sign("}"))
}

func TestTokensOfNothing(t *testing.T) {
	for _, s := range []string{"", "/**/", "/*", "/* a */", "/**//**/", "/*/", "/***", "/* \n", "/*\xFF"} {
		if l := Tokens(s); l != nil {
			t.Errorf("Tokens(%q) = %s", s, show(l))
		}
		hold(t, s)
	}
}

func TestUrlIsAFunctionLikeAnyOther(t *testing.T) {
	holdTokens(t, "url(a b\"c\")", function("url"), ident("a"), white, ident("b"), text("c"), sign(")"))
	holdTokens(t, "URL(/*x*/http://y)", function("URL"), ident("http"), sign(":"), delim("/"), delim("/"), ident("y"), sign(")"))
	holdTokens(t, "url('x", function("url"), text("x"))
	holdTokens(t, "url (x)", ident("url"), white, sign("("), ident("x"), sign(")"))
}

// The characters of a text.

func TestLineEndsAreOneSign(t *testing.T) {
	for _, end := range []string{"\n", "\r\n", "\r", "\f"} {
		holdTokens(t, end, white)
		holdTokens(t, "a"+end+"b", ident("a"), white, ident("b"))
		holdTokens(t, "\"a"+end+"b", bad("a"), white, ident("b"))
		holdTokens(t, "\"a\\"+end+"b\"", text("ab"))
		holdTokens(t, "a\\"+end+"b", ident("a"), delim(`\`), white, ident("b"))
		holdTokens(t, "\\31"+end+"b", ident("1b"))
		holdTokens(t, "\"\\31"+end+"b\"", text("1b"))
		holdTokens(t, "\\31"+end+end+"b", ident("1"), white, ident("b"))
		holdTokens(t, "'\\31"+end+end+"b", bad("1"), white, ident("b"))
		holdTokens(t, "'a\\"+end+end+"b", bad("a"), white, ident("b"))
		holdTokens(t, "/*"+end+"*/a", ident("a"))
	}
	holdTokens(t, "'a\\\n\rb'", bad("a"), white, ident("b"), text(""))
	holdTokens(t, "'a\\\r\fb'", bad("a"), white, ident("b"), text(""))
	holdTokens(t, "'a\\\r\r\nb'", bad("a"), white, ident("b"), text(""))
	holdTokens(t, "\\31\n\r\nb", ident("1"), white, ident("b"))
	holdTokens(t, "\\31\r\r\nb", ident("1"), white, ident("b"))
	holdTokens(t, "\\31\f\nb", ident("1"), white, ident("b"))
}

func TestTheCharacter0IsReplaced(t *testing.T) {
	holdTokens(t, "\x00", ident("\uFFFD"))
	holdTokens(t, "a\x00b", ident("a\uFFFDb"))
	holdTokens(t, "'a\x00'", text("a\uFFFD"))
	holdTokens(t, "'\\\x00'", text("\uFFFD"))
	holdTokens(t, "\\\x00a", ident("\uFFFDa"))
	holdTokens(t, "#\x00", id("\uFFFD"))
	holdTokens(t, "@\x00", at("\uFFFD"))
	holdTokens(t, "1\x00", measure("1", "\uFFFD"))
	holdTokens(t, "-\x00(", function("-\uFFFD"))
	holdTokens(t, "\r\x00\n", white, ident("\uFFFD"), white)
}

func TestBytesThatAreIllFormed(t *testing.T) {
	holdTokens(t, "\xFF", ident("\uFFFD"))
	holdTokens(t, "a\xFFb", ident("a\uFFFDb"))
	holdTokens(t, "\xE2\x82", ident("\uFFFD"))
	holdTokens(t, "\xE2\x82\xE2\x82\xAC", ident("\uFFFD\u20AC"))
	holdTokens(t, "\xF0\x9F\x98a", ident("\uFFFDa"))
	holdTokens(t, "\xED\xA0\x80", ident("\uFFFD\uFFFD\uFFFD"))
	holdTokens(t, "'\xC0\xAF'", text("\uFFFD\uFFFD"))
	holdTokens(t, "\"a\xC3\n", bad("a\uFFFD"), white)
	holdTokens(t, "#\xFF @\xFE 1\x80 -\xFF(", id("\uFFFD"), white, at("\uFFFD"), white, measure("1", "\uFFFD"), white, function("-\uFFFD"))
	holdTokens(t, "\\\xE2\x82(", function("\uFFFD"))
	holdTokens(t, "/*\xE2*/\xE2", ident("\uFFFD"))
	holdTokens(t, "\xEF\xBB\xBFa", ident("\uFEFFa"))
}

func TestWhite(t *testing.T) {
	for _, s := range []string{" ", "\t", "\n", "  ", " \t\n\r\n\f ", strings.Repeat(" ", 1000)} {
		holdTokens(t, s, white)
		holdTokens(t, s+"a"+s, white, ident("a"), white)
	}
	holdTokens(t, " /**/ ", white, white)
	holdTokens(t, " /**//**/\n/**/\t", white, white, white)
	holdTokens(t, "\v\b\x1F", delim("\v"), delim("\b"), delim("\x1F"))
	holdTokens(t, "\u00A0\u2003\u2028", ident("\u00A0\u2003\u2028"))
}

// Which characters may do what.

func TestEveryCharacterAlone(t *testing.T) {
	for r := rune(0); r <= 0x10FFFF; r++ {
		if r > 0x3000 && r%251 != 0 && r < 0x10FF00 || r >= 0xD800 && r <= 0xDFFF {
			continue
		}
		c := string(r)
		for _, s := range []string{c, c + "a", "-" + c, "a" + c, "#" + c, "@" + c, "1" + c, "\\" + c, "\\1" + c, "'" + c, "\"" + c} {
			hold(t, s)
		}
	}
	for c := rune(0x80); c < 0x100; c++ {
		holdTokens(t, string(c)+"1", ident(string(c)+"1"))
	}
}

func TestSignsAndDelims(t *testing.T) {
	const all = "!$%&'()*+,-./:;<=>?[]^`{|}~@#\x01\x08\x0B\x0E\x1F\x7F"
	for i := range len(all) {
		c := all[i : i+1]
		switch {
		case strings.Contains(",:;()[]{}", c):
			holdTokens(t, c, sign(c))
			holdTokens(t, c+c+" "+c, sign(c), sign(c), white, sign(c))
		case c != "'":
			holdTokens(t, c, delim(c))
			holdTokens(t, " "+c+" ", white, delim(c), white)
		}
	}
	holdTokens(t, "##a", delim("#"), id("a"))
	holdTokens(t, "@@a", delim("@"), at("a"))
	holdTokens(t, "a>b+c~d", ident("a"), delim(">"), ident("b"), delim("+"), ident("c"), delim("~"), ident("d"))
	holdTokens(t, "|=~=||", delim("|"), delim("="), delim("~"), delim("="), delim("|"), delim("|"))
	holdTokens(t, "/ * //*/", delim("/"), white, delim("*"), white, delim("/"))
	holdTokens(t, "*/", delim("*"), delim("/"))
	holdTokens(t, "%", delim("%"))
	holdTokens(t, "a%", ident("a"), delim("%"))
}

// Escapes.

func TestEscapesOfNumbers(t *testing.T) {
	for _, x := range []struct{ s, want string }{
		{`\4`, "\x04"}, {`\41`, "A"}, {`\041`, "A"}, {`\0041`, "A"}, {`\00041`, "A"}, {`\000041`, "A"}, {`\0000410`, "A0"}, {`\0000041`, "\x041"},
		{`\5D0`, "\u05D0"}, {`\5d0`, "\u05D0"}, {`\1F600`, "\U0001F600"}, {`\01f600`, "\U0001F600"}, {`\10FFFF`, "\U0010FFFF"}, {`\10ffff`, "\U0010FFFF"},
		{`\110000`, "\uFFFD"}, {`\FFFFFF`, "\uFFFD"}, {`\1100001`, "\uFFFD1"}, {`\0`, "\uFFFD"}, {`\00`, "\uFFFD"}, {`\000000`, "\uFFFD"}, {`\0000000`, "\uFFFD0"},
		{`\D7FF`, "\uD7FF"}, {`\D800`, "\uFFFD"}, {`\dbff`, "\uFFFD"}, {`\DC00`, "\uFFFD"}, {`\DFFF`, "\uFFFD"}, {`\E000`, "\uE000"}, {`\00D800`, "\uFFFD"}, {`\D83D\DE00`, "\uFFFD\uFFFD"},
		{`\41g`, "Ag"}, {`\41G`, "AG"}, {`\41-`, "A-"}, {`\41\42`, "AB"}, {`\41 42`, "A42"}, {"\\41\t42", "A42"}, {"\\41\n42", "A42"}, {`\000041 42`, "A42"}, {`\00004142`, "A42"},
		{`\aF`, "\u00AF"}, {`\Af`, "\u00AF"}, {`\9`, "\t"}, {`\A`, "\n"}, {`\a b`, "\nb"}, {`\C`, "\f"}, {`\D`, "\r"}, {`\D \A `, "\r\n"}, {`\20`, " "}, {`\7F`, "\x7F"}, {`\80`, "\u0080"}, {`\FFFD`, "\uFFFD"}, {`\FFFE`, "\uFFFE"}, {`\5C`, `\`},
	} {
		holdTokens(t, x.s, ident(x.want))
		holdTokens(t, "a"+x.s, ident("a"+x.want))
		holdTokens(t, "-"+x.s, ident("-"+x.want))
		holdTokens(t, x.s+"(", function(x.want))
		holdTokens(t, "@"+x.s, at(x.want))
		holdTokens(t, "#"+x.s, id(x.want))
		holdTokens(t, "#1"+x.s, hash("1"+x.want))
		holdTokens(t, "1"+x.s, measure("1", x.want))
		holdTokens(t, "'"+x.s+"'", text(x.want))
		holdTokens(t, "\""+x.s, text(x.want))
		holdTokens(t, "'"+x.s+";\n", bad(x.want+";"), white)
	}
}

func TestEscapesTakeOneWhite(t *testing.T) {
	for _, blank := range []string{" ", "\t", "\n", "\r\n", "\r", "\f"} {
		for _, digits := range []string{"7", "61", "061", "0061", "00061", "000061"} {
			c := "a"
			if digits == "7" {
				c = "\x07"
			}
			holdTokens(t, "\\"+digits+blank+"b", ident(c+"b"))
			holdTokens(t, "\\"+digits+blank+" b", ident(c), white, ident("b"))
			holdTokens(t, "'\\"+digits+blank+" b'", text(c+" b"))
			holdTokens(t, "\\"+digits+blank, ident(c))
			holdTokens(t, "1\\"+digits+blank+"(", measure("1", c), sign("("))
		}
	}
	holdTokens(t, `\67 (`, function("g"))
	holdTokens(t, `\67  (`, ident("g"), white, sign("("))
	holdTokens(t, `\67/**/ b`, ident("g"), white, ident("b"))
	holdTokens(t, `\g b`, ident("g"), white, ident("b"))
	holdTokens(t, "\\67\u00A0b", ident("g\u00A0b"))
	holdTokens(t, "\\67\vb", ident("g"), delim("\v"), ident("b"))
}

func TestEscapesOfTheNextCharacter(t *testing.T) {
	for _, c := range []string{" ", "\t", "\\", "\"", "'", "(", ")", "{", ";", "#", "@", "-", "+", ".", "%", "<", "/", "*", "g", "G", "z", "_", "\x01", "\x7F", "\u0080", "\u05D0", "\U0001F600", "\uFFFD"} {
		holdTokens(t, "\\"+c, ident(c))
		holdTokens(t, "\\"+c+"b", ident(c+"b"))
		holdTokens(t, "a\\"+c+"(", function("a"+c))
		holdTokens(t, "-\\"+c, ident("-"+c))
		holdTokens(t, "#\\"+c, id(c))
		holdTokens(t, "#1\\"+c, hash("1"+c))
		holdTokens(t, "@\\"+c, at(c))
		holdTokens(t, "1\\"+c, measure("1", c))
		holdTokens(t, "\"\\"+c+"\"", text(c))
		holdTokens(t, "'\\"+c+"'", text(c))
	}
}

func TestEscapesAtTheEnd(t *testing.T) {
	holdTokens(t, `\`, ident("\uFFFD"))
	holdTokens(t, `a\`, ident("a\uFFFD"))
	holdTokens(t, `-\`, ident("-\uFFFD"))
	holdTokens(t, `#\`, id("\uFFFD"))
	holdTokens(t, `#1\`, hash("1\uFFFD"))
	holdTokens(t, `@\`, at("\uFFFD"))
	holdTokens(t, `1\`, measure("1", "\uFFFD"))
	holdTokens(t, `1e\`, measure("1", "e\uFFFD"))
	holdTokens(t, `\\`, ident(`\`))
	holdTokens(t, `\\\`, ident("\\\uFFFD"))
	holdTokens(t, `"\`, text(""))
	holdTokens(t, `'a\`, text("a"))
	holdTokens(t, `'a\\`, text(`a\`))
	holdTokens(t, `'a\'`, text("a'"))
}

func TestNoEscapeStandsAheadOfALineEnd(t *testing.T) {
	holdTokens(t, "\\\n", delim(`\`), white)
	holdTokens(t, "\\\na", delim(`\`), white, ident("a"))
	holdTokens(t, "a\\\n", ident("a"), delim(`\`), white)
	holdTokens(t, "-\\\n", delim("-"), delim(`\`), white)
	holdTokens(t, "#\\\n", delim("#"), delim(`\`), white)
	holdTokens(t, "#-\\\n", hash("-"), delim(`\`), white)
	holdTokens(t, "@\\\n", delim("@"), delim(`\`), white)
	holdTokens(t, "@-\\\n", delim("@"), delim("-"), delim(`\`), white)
	holdTokens(t, "1\\\n", num("1"), delim(`\`), white)
	holdTokens(t, "1-\\\n", num("1"), delim("-"), delim(`\`), white)
	holdTokens(t, "\\\\\n", ident(`\`), white)
	holdTokens(t, "\\\\\\\n", ident(`\`), delim(`\`), white)
}

// Comments.

func TestComments(t *testing.T) {
	holdTokens(t, "a/**/b", ident("a"), ident("b"))
	holdTokens(t, "a/*b*/c*/", ident("a"), ident("c"), delim("*"), delim("/"))
	holdTokens(t, "/*/*/a", ident("a"))
	holdTokens(t, "/*/a")
	holdTokens(t, "/*/**/a", ident("a"))
	holdTokens(t, "/***/a/****/", ident("a"))
	holdTokens(t, "/* * / **/a", ident("a"))
	holdTokens(t, "a/*", ident("a"))
	holdTokens(t, "a /* b", ident("a"), white)
	holdTokens(t, "a/* b *", ident("a"))
	holdTokens(t, "/**//**/a/**//**/", ident("a"))
	holdTokens(t, "/*\"*/a'/*'", ident("a"), text("/*"))
	holdTokens(t, "\"/*\"*/", text("/*"), delim("*"), delim("/"))
	holdTokens(t, "/*\\*/a", ident("a"))
	holdTokens(t, "\\/*a", ident("/"), delim("*"), ident("a"))
	holdTokens(t, "/\\*a", delim("/"), ident("*a"))
	holdTokens(t, "//**/*", delim("/"), delim("*"))
	holdTokens(t, "/ */", delim("/"), white, delim("*"), delim("/"))
	holdTokens(t, "#/**/a", delim("#"), ident("a"))
	holdTokens(t, "@/**/a", delim("@"), ident("a"))
	holdTokens(t, "a/**/(", ident("a"), sign("("))
	holdTokens(t, "1/**/%", num("1"), delim("%"))
	holdTokens(t, "1/**/px", num("1"), ident("px"))
	holdTokens(t, "1/**/e3", num("1"), ident("e3"))
	holdTokens(t, "1e/**/3", measure("1", "e"), num("3"))
	holdTokens(t, "+/**/1", delim("+"), num("1"))
	holdTokens(t, "1/**/.5", num("1"), num(".5"))
	holdTokens(t, "-/**/-a", delim("-"), ident("-a"))
	holdTokens(t, "<!/**/--", delim("<"), delim("!"), ident("--"))
	holdTokens(t, "--/**/>", ident("--"), delim(">"))
	holdTokens(t, "\\/**/", ident("/"), delim("*"), delim("*"), delim("/"))
}

// singles are tokens of every kind, as a text and as a token; none of the texts joins what stands behind a comment.
func singles() map[string]Token {
	return map[string]Token{
		" ": white, "a": ident("a"), "a(": function("a"), "@a": at("a"), "#a": id("a"), "#1": hash("1"), "'a'": text("a"), "1": num("1"), "1%": percent("1"), "1px": measure("1", "px"),
		";": sign(";"), "(": sign("("), "+": delim("+"), "/": delim("/"), "*": delim("*"), "<": delim("<"), "<!--": openMark, "-->": closeMark,
	}
}

func TestCommentsBesideEveryKindOfToken(t *testing.T) {
	for s, x := range singles() {
		holdTokens(t, "/* b */"+s, x)
		holdTokens(t, s+"/* b */", x)
		holdTokens(t, s+"/* b", x)
		holdTokens(t, "/*a*//*b*/"+s+"/*c*//*d*/", x)
		for other, y := range singles() {
			holdTokens(t, s+"/*b*/"+other, x, y)
			holdTokens(t, s+"/*b*//**/"+other, x, y)
		}
	}
	holdTokens(t, "'a\n/**/b", bad("a"), white, ident("b"))
	holdTokens(t, "/**/'a\n", bad("a"), white)
}

// Numbers.

func TestNumbers(t *testing.T) {
	for _, s := range []string{
		"0", "1", "12", "007", "1.5", ".5", "0.50", "12.34", "+1", "-1", "+.5", "-.5", "+1.5", "-12.25", "1e3", "1E3", "1e+3", "1e-3", "1E+3", "1E-03", "1.5e3", ".5e3", "+.5E-3", "-1.5e+30", "00", "-0", "+0.0e0",
		strings.Repeat("9", 500), "1." + strings.Repeat("0", 500), "1e" + strings.Repeat("9", 500),
	} {
		holdTokens(t, s, num(s))
		holdTokens(t, s+" ", num(s), white)
		holdTokens(t, s+"%", percent(s))
		holdTokens(t, s+"%%", percent(s), delim("%"))
		holdTokens(t, s+" %", num(s), white, delim("%"))
		holdTokens(t, s+"px", measure(s, "px"))
		holdTokens(t, s+"-a", measure(s, "-a"))
		holdTokens(t, s+"--", measure(s, "--"))
		holdTokens(t, s+"_", measure(s, "_"))
		holdTokens(t, s+"\u05D0", measure(s, "\u05D0"))
		holdTokens(t, s+"px%", measure(s, "px"), delim("%"))
		holdTokens(t, s+"px(", measure(s, "px"), sign("("))
		holdTokens(t, s+".", num(s), delim("."))
		holdTokens(t, s+"-", num(s), delim("-"))
		holdTokens(t, s+"+", num(s), delim("+"))
		holdTokens(t, s+"+1", num(s), num("+1"))
		holdTokens(t, s+"-1", num(s), num("-1"))
		holdTokens(t, s+"#a", num(s), id("a"))
		holdTokens(t, s+"(", num(s), sign("("))
	}
}

func TestNumbersAndWhatLooksSo(t *testing.T) {
	holdTokens(t, "1.", num("1"), delim("."))
	holdTokens(t, "1.a", num("1"), delim("."), ident("a"))
	holdTokens(t, "1.e3", num("1"), delim("."), ident("e3"))
	holdTokens(t, "1..5", num("1"), delim("."), num(".5"))
	holdTokens(t, "1.5.5", num("1.5"), num(".5"))
	holdTokens(t, "1.5.", num("1.5"), delim("."))
	holdTokens(t, ".", delim("."))
	holdTokens(t, ".a", delim("."), ident("a"))
	holdTokens(t, "..5", delim("."), num(".5"))
	holdTokens(t, "+", delim("+"))
	holdTokens(t, "+a", delim("+"), ident("a"))
	holdTokens(t, "+.", delim("+"), delim("."))
	holdTokens(t, "+.a", delim("+"), delim("."), ident("a"))
	holdTokens(t, "++1", delim("+"), num("+1"))
	holdTokens(t, "+-1", delim("+"), num("-1"))
	holdTokens(t, "-+1", delim("-"), num("+1"))
	holdTokens(t, "+ 1", delim("+"), white, num("1"))
	holdTokens(t, "1+", num("1"), delim("+"))
	holdTokens(t, "1-2", num("1"), num("-2"))
	holdTokens(t, "1 -2", num("1"), white, num("-2"))
	holdTokens(t, "1\u0661", measure("1", "\u0661"))
	holdTokens(t, "\u0661", ident("\u0661"))
	holdTokens(t, "1,5", num("1"), sign(","), num("5"))
	holdTokens(t, "#.5", delim("#"), num(".5"))
	holdTokens(t, "@1", delim("@"), num("1"))
	holdTokens(t, "a1", ident("a1"))
	holdTokens(t, "a.5", ident("a"), num(".5"))
}

func TestNumbersWithE(t *testing.T) {
	for _, e := range []string{"e", "E"} {
		holdTokens(t, "1"+e, measure("1", e))
		holdTokens(t, "1"+e+"3", num("1"+e+"3"))
		holdTokens(t, "1"+e+"+3", num("1"+e+"+3"))
		holdTokens(t, "1"+e+"-3", num("1"+e+"-3"))
		holdTokens(t, "1"+e+"3%", percent("1"+e+"3"))
		holdTokens(t, "1"+e+"-3%", percent("1"+e+"-3"))
		holdTokens(t, "1"+e+"3"+e, measure("1"+e+"3", e))
		holdTokens(t, "1"+e+"3"+e+"3", measure("1"+e+"3", e+"3"))
		holdTokens(t, "1"+e+"3"+e+"-3", measure("1"+e+"3", e+"-3"))
		holdTokens(t, "1"+e+"3.5", num("1"+e+"3"), num(".5"))
		holdTokens(t, "1"+e+".5", measure("1", e), num(".5"))
		holdTokens(t, "1"+e+"+", measure("1", e), delim("+"))
		holdTokens(t, "1"+e+"+a", measure("1", e), delim("+"), ident("a"))
		holdTokens(t, "1"+e+"+.5", measure("1", e), num("+.5"))
		holdTokens(t, "1"+e+"++5", measure("1", e), delim("+"), num("+5"))
		holdTokens(t, "1"+e+"-", measure("1", e+"-"))
		holdTokens(t, "1"+e+"--", measure("1", e+"--"))
		holdTokens(t, "1"+e+"-x", measure("1", e+"-x"))
		holdTokens(t, "1"+e+"--3", measure("1", e+"--3"))
		holdTokens(t, "1"+e+"x3", measure("1", e+"x3"))
		holdTokens(t, "1"+e+"m", measure("1", e+"m"))
		holdTokens(t, "1"+e+"%", measure("1", e), delim("%"))
		holdTokens(t, "1"+e+" 3", measure("1", e), white, num("3"))
		holdTokens(t, "1"+e+`\33`, measure("1", e+"3"))
		holdTokens(t, "1"+e+`-\33`, measure("1", e+"-3"))
		holdTokens(t, "."+e+"3", delim("."), ident(e+"3"))
		holdTokens(t, "+"+e+"3", delim("+"), ident(e+"3"))
		holdTokens(t, "."+"5"+e+"3", num(".5"+e+"3"))
	}
	holdTokens(t, `1\65 3`, measure("1", "e3"))
	holdTokens(t, `1\65-3`, measure("1", "e-3"))
	holdTokens(t, `1\45 3px`, measure("1", "E3px"))
}

// What - begins.

func TestWhatAMinusBegins(t *testing.T) {
	holdTokens(t, "-", delim("-"))
	holdTokens(t, "- ", delim("-"), white)
	holdTokens(t, "-a", ident("-a"))
	holdTokens(t, "-_", ident("-_"))
	holdTokens(t, "-\u05D0", ident("-\u05D0"))
	holdTokens(t, "-a(", function("-a"))
	holdTokens(t, "--", ident("--"))
	holdTokens(t, "---", ident("---"))
	holdTokens(t, "--a", ident("--a"))
	holdTokens(t, "--1", ident("--1"))
	holdTokens(t, "--(", function("--"))
	holdTokens(t, "-\\31", ident("-1"))
	holdTokens(t, "--\\31", ident("--1"))
	holdTokens(t, "-1", num("-1"))
	holdTokens(t, "-.5", num("-.5"))
	holdTokens(t, "-1a", measure("-1", "a"))
	holdTokens(t, "-1%", percent("-1"))
	holdTokens(t, "-.", delim("-"), delim("."))
	holdTokens(t, "-.a", delim("-"), delim("."), ident("a"))
	holdTokens(t, "-+", delim("-"), delim("+"))
	holdTokens(t, "-(", delim("-"), sign("("))
	holdTokens(t, "-#a", delim("-"), id("a"))
	holdTokens(t, "-/**/a", delim("-"), ident("a"))
	holdTokens(t, "->", delim("-"), delim(">"))
	holdTokens(t, "-->", closeMark)
	holdTokens(t, "-->-->", closeMark, closeMark)
	holdTokens(t, "--->", ident("---"), delim(">"))
	holdTokens(t, "a-->", ident("a--"), delim(">"))
	holdTokens(t, "1-->", measure("1", "--"), delim(">"))
	holdTokens(t, "#-->", id("--"), delim(">"))
	holdTokens(t, "@-->", at("--"), delim(">"))
	holdTokens(t, "-- >", ident("--"), white, delim(">"))
	holdTokens(t, "-\\->", ident("--"), delim(">"))
	holdTokens(t, "\\-->", ident("--"), delim(">"))
	holdTokens(t, "\\-", ident("-"))
}

func TestOpenAndClose(t *testing.T) {
	holdTokens(t, "<!--", openMark)
	holdTokens(t, "<!-->", openMark, delim(">"))
	holdTokens(t, "<!---->", openMark, closeMark)
	holdTokens(t, "<!---", openMark, delim("-"))
	holdTokens(t, "<!--a-->", openMark, ident("a--"), delim(">"))
	holdTokens(t, "<!-- a -->", openMark, white, ident("a"), white, closeMark)
	holdTokens(t, "<!-", delim("<"), delim("!"), delim("-"))
	holdTokens(t, "<!", delim("<"), delim("!"))
	holdTokens(t, "<!a", delim("<"), delim("!"), ident("a"))
	holdTokens(t, "<--", delim("<"), ident("--"))
	holdTokens(t, "<<!--", delim("<"), openMark)
	holdTokens(t, "<\\!--", delim("<"), ident("!--"))
	holdTokens(t, "a<!--b", ident("a"), openMark, ident("b"))
	holdTokens(t, "<!--1-->", openMark, measure("1", "--"), delim(">"))
}

// Names.

func TestHashesWithAndWithoutID(t *testing.T) {
	for _, s := range []string{"a", "Z", "_", "-a", "--", "---", "--1", "a1", "a-", "-_", "\u05D0", "-\u0080"} {
		holdTokens(t, "#"+s, id(s))
	}
	for _, s := range []string{"1", "0a", "1-a", "-", "-1", "-1a", "9_", "-0-"} {
		holdTokens(t, "#"+s, hash(s))
	}
	holdTokens(t, `#\31`, id("1"))
	holdTokens(t, `#\31 a`, id("1a"))
	holdTokens(t, `#-\31`, id("-1"))
	holdTokens(t, `#1\31`, hash("11"))
	holdTokens(t, `#-1\.`, hash("-1."))
	holdTokens(t, `#\-`, id("-"))
	holdTokens(t, "#a(", id("a"), sign("("))
	holdTokens(t, "#a#b", id("a"), id("b"))
	holdTokens(t, "#a.b", id("a"), delim("."), ident("b"))
	holdTokens(t, "#", delim("#"))
	holdTokens(t, "# a", delim("#"), white, ident("a"))
	holdTokens(t, "#(", delim("#"), sign("("))
	holdTokens(t, "#+1", delim("#"), num("+1"))
	holdTokens(t, "#\"a\"", delim("#"), text("a"))
	holdTokens(t, "#1e3", hash("1e3"))
	holdTokens(t, "#1.5", hash("1"), num(".5"))
}

func TestAtWords(t *testing.T) {
	for _, s := range []string{"a", "media", "Z9", "_", "-a", "--", "-\u05D0", "\u0080", "a-b_c1"} {
		holdTokens(t, "@"+s, at(s))
		holdTokens(t, "@"+s+"(", at(s), sign("("))
		holdTokens(t, "@"+s+" x", at(s), white, ident("x"))
	}
	holdTokens(t, `@\31`, at("1"))
	holdTokens(t, `@-\31`, at("-1"))
	holdTokens(t, "@", delim("@"))
	holdTokens(t, "@ a", delim("@"), white, ident("a"))
	holdTokens(t, "@-", delim("@"), delim("-"))
	holdTokens(t, "@1a", delim("@"), measure("1", "a"))
	holdTokens(t, "@-1", delim("@"), num("-1"))
	holdTokens(t, "@#a", delim("@"), id("a"))
	holdTokens(t, "@(", delim("@"), sign("("))
}

func TestIdentsAndFuncs(t *testing.T) {
	for _, s := range []string{"a", "Z", "_", "a1", "A-b_C", "-a", "--", "--1", "x\u05D0", "\u05D0x", "important", "url", "e3", "\U0010FFFF"} {
		holdTokens(t, s, ident(s))
		holdTokens(t, s+"(", function(s))
		holdTokens(t, s+"((", function(s), sign("("))
		holdTokens(t, s+"()", function(s), sign(")"))
		holdTokens(t, s+" (", ident(s), white, sign("("))
		holdTokens(t, s+"{", ident(s), sign("{"))
		holdTokens(t, s+":", ident(s), sign(":"))
	}
	holdTokens(t, `a\(b(`, function("a(b"))
	holdTokens(t, `a\(`, ident("a("))
	holdTokens(t, "a\x7Fb", ident("a"), delim("\x7F"), ident("b"))
}

// Texts.

func TestTexts(t *testing.T) {
	for quote, other := range map[string]string{"'": "\"", "\"": "'"} {
		holdTokens(t, quote+quote, text(""))
		holdTokens(t, quote, text(""))
		holdTokens(t, quote+"a", text("a"))
		holdTokens(t, quote+"a"+quote, text("a"))
		holdTokens(t, quote+"a"+quote+"b", text("a"), ident("b"))
		holdTokens(t, quote+"a"+other+"b"+quote, text("a"+other+"b"))
		holdTokens(t, quote+other, text(other))
		holdTokens(t, quote+"\\"+quote, text(quote))
		holdTokens(t, quote+"\\"+quote+quote+"a", text(quote), ident("a"))
		holdTokens(t, quote+"\\\\"+quote+"a", text("\\"), ident("a"))
		holdTokens(t, quote+"\\\n"+quote, text(""))
		holdTokens(t, quote+"a\\\n\\\nb"+quote, text("ab"))
		holdTokens(t, quote+"a\\\n", text("a"))
		holdTokens(t, quote+"\\22 \\27"+quote, text("\"'"))
		holdTokens(t, quote+"\\A x\\a"+quote, text("\nx\n"))
		holdTokens(t, quote+"/*a*/ b\t#@1%;{}()<!---->"+quote, text("/*a*/ b\t#@1%;{}()<!---->"))
		holdTokens(t, quote+quote+quote+quote, text(""), text(""))
		holdTokens(t, quote+"\u05D0\x01\x7F"+quote, text("\u05D0\x01\x7F"))
		holdTokens(t, "a"+quote+"b"+quote+"(", ident("a"), text("b"), sign("("))
	}
}

func TestBads(t *testing.T) {
	for _, quote := range []string{"'", "\""} {
		holdTokens(t, quote+"\n", bad(""), white)
		holdTokens(t, quote+"\n"+quote, bad(""), white, text(""))
		holdTokens(t, quote+"a\nb"+quote+"c", bad("a"), white, ident("b"), text("c"))
		holdTokens(t, quote+"a\n \nb", bad("a"), white, ident("b"))
		holdTokens(t, quote+"a \n", bad("a "), white)
		holdTokens(t, quote+"a\\\\\n", bad("a\\"), white)
		holdTokens(t, quote+"a\\\n\n", bad("a"), white)
		holdTokens(t, quote+"\\A\n\n", bad("\n"), white)
		holdTokens(t, quote+"\n"+quote+"\n", bad(""), white, bad(""), white)
		holdTokens(t, "x:"+quote+"a;\n}", ident("x"), sign(":"), bad("a;"), white, sign("}"))
		holdTokens(t, quote+"a\n/**/ b", bad("a"), white, white, ident("b"))
	}
}

// Sizes.

func TestLongTexts(t *testing.T) {
	const n = 1 << 16
	for unit, want := range map[string]int{
		"/* ": 0, "/**/": 0, " ": 1, "\r": 1, "a": 1, "-": 1, "1": 1, "\\": 1, "\\41": 1, "\xFF": 1, "\x00": 1, "_/**/": n, "a ": 2 * n, "#": n, "@": n, "(": n, "+": n, "#a": n, "@a ": 2 * n, "a(": n, "1%": n, "1;": 2 * n,
		"<!--": n, "-->": n, "--> ": 2 * n, "\"\"": n, "\"\n": 2 * n, "\\\n": 2 * n, "'a": n, "1e": 1, ".1": n, "1.": n,
	} {
		l := Tokens(strings.Repeat(unit, n))
		if len(l) != want {
			t.Errorf("%q, %d times: %d tokens, want %d", unit, n, len(l), want)
		}
		if again := Tokens(Print(l)); !slices.Equal(again, l) {
			t.Errorf("%q, %d times: printed and read again: %d tokens", unit, n, len(again))
		}
	}
}
