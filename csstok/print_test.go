package csstok

import (
	"math"
	"slices"
	"strings"
	"testing"
)

// P7.2: the text of each kind

func TestPrintOfEachKind(t *testing.T) {
	holdPrint(t, "")
	holdPrint(t, " ", white)
	holdPrint(t, "a", ident("a"))
	holdPrint(t, "a(", function("a"))
	holdPrint(t, "@a", at("a"))
	holdPrint(t, "#a", hash("a"))
	holdPrint(t, "#a", id("a"))
	holdPrint(t, `"a"`, text("a"))
	holdPrint(t, `"a`, bad("a"))
	holdPrint(t, "1.50e+03", num("1.50e+03"))
	holdPrint(t, "-.5%", percent("-.5"))
	holdPrint(t, "+1px", measure("+1", "px"))
	holdPrint(t, "{", sign("{"))
	holdPrint(t, ">", delim(">"))
	holdPrint(t, "<!--", openMark)
	holdPrint(t, "-->", closeMark)
}

func TestPrintOfRows(t *testing.T) {
	for s, want := range map[string]string{
		"p > .a,#b{x : 'y';\tz:1px}":  "p > ./**/a,#b{x : \"y\"; z:1px}",
		"a/**/b":                      "a/**/b",
		"a /**/ b":                    "a /**/ b",
		"a/*x*/(b)":                   "a/**/(b)",
		"a(b)":                        "a(b)",
		"1/**/2 3":                    "1/**/2 3",
		"1+2":                         "1/**/+2",
		"1 + 2":                       "1 + 2",
		"+-*/":                        "+/**/-/**/*/**//",
		"\n\n \t":                     " ",
		"'a\nb":                       "\"a\nb",
		"'a\n/**/\n":                  "\"a\n/**/ ",
		"\\\n\n/**/\n":                "\\\n/**/ ",
		"'it''s'":                     "\"it\"\"s\"",
		"<!-- a -->":                  "<!-- a -->",
		"\\31 a \\@b":                 "\\31 a \\40 b",
		"1\\65 3":                     "1\\65 3",
		"#\\31 #1":                    "#\\31 #1",
		"@x y;@z{}":                   "@x y;@z{}",
		"50%a":                        "50%/**/a",
		"url(a.b)":                    "url(a/**/./**/b)",
		"a\xFFb":                      "a\uFFFDb",
		"/*a*/ /*b*/":                 " ",
		"--x:--":                      "--x:--",
		"-\\31 \\-":                   "-\\31 -",
		"\\-":                         "\\2D ",
		"'\\A\\C\\D\\22\\27\\5C'":     "\"\\A \\C \\D \\\"'\\\\\"",
		"x\\\n":                       "x/**/\\\n",
		"a:hover::before[x='1']":      "a:hover::before[x/**/=\"1\"]",
		"margin:-1px auto!important;": "margin:-1px auto/**/!/**/important;",
	} {
		if printed := Print(Tokens(s)); printed != want {
			t.Errorf("%q is printed as %q, want %q", s, printed, want)
		}
		hold(t, s)
	}
}

func TestPrintOfNames(t *testing.T) {
	for _, x := range []struct{ name, want, asHash string }{
		{"a", "a", "a"}, {"Zz09_-", "Zz09_-", "Zz09_-"}, {"\u0080\u05D0\U0010FFFF", "\u0080\u05D0\U0010FFFF", "\u0080\u05D0\U0010FFFF"}, {"", "", ""},
		{"1", `\31 `, "1"}, {"1a", `\31 a`, "1a"}, {"11", `\31 1`, "11"}, {"0", `\30 `, "0"}, {"9-", `\39 -`, "9-"}, {"a1", "a1", "a1"}, {"_1", "_1", "_1"}, {"\u05D01", "\u05D01", "\u05D01"},
		{"-", `\2D `, "-"}, {"--", "--", "--"}, {"---", "---", "---"}, {"-a", "-a", "-a"}, {"-1", `-\31 `, "-1"}, {"-11", `-\31 1`, "-11"}, {"-1-", `-\31 -`, "-1-"}, {"--1", "--1", "--1"}, {"-a1", "-a1", "-a1"}, {"a-", "a-", "a-"}, {"a-1", "a-1", "a-1"},
		{" ", `\20 `, `\20 `}, {"a b", `a\20 b`, `a\20 b`}, {"\n", `\A `, `\A `}, {"\r\n", `\D \A `, `\D \A `}, {"\f", `\C `, `\C `}, {"\t", `\9 `, `\9 `}, {"\x01", `\1 `, `\1 `}, {"\x7F", `\7F `, `\7F `}, {"\x00", `\0 `, `\0 `},
		{`\`, `\5C `, `\5C `}, {`"`, `\22 `, `\22 `}, {"(", `\28 `, `\28 `}, {"a.b:c", `a\2E b\3A c`, `a\2E b\3A c`}, {"*/", `\2A \2F `, `\2A \2F `}, {"{}", `\7B \7D `, `\7B \7D `}, {"@", `\40 `, `\40 `}, {"[`^", `\5B \60 \5E `, `\5B \60 \5E `}, {"/~", `\2F \7E `, `\2F \7E `},
		{"1.", `\31 \2E `, `1\2E `}, {"-.", `-\2E `, `-\2E `}, {".1", `\2E 1`, `\2E 1`}, {"-.1", `-\2E 1`, `-\2E 1`}, {".-", `\2E -`, `\2E -`}, {" -", `\20 -`, `\20 -`}, {"- ", `-\20 `, `-\20 `},
		{"\xFF", "\uFFFD", "\uFFFD"}, {"a\xE2\x82b", "a\uFFFDb", "a\uFFFDb"}, {"\xFF1", "\uFFFD1", "\uFFFD1"}, {"-\xFF", "-\uFFFD", "-\uFFFD"}, {"\xED\xA0\x80", "\uFFFD\uFFFD\uFFFD", "\uFFFD\uFFFD\uFFFD"},
		{"e3", "e3", "e3"}, {"E-3", "E-3", "E-3"}, {"e", "e", "e"},
	} {
		holdPrint(t, x.want, ident(x.name))
		holdPrint(t, x.want+"(", function(x.name))
		holdPrint(t, "@"+x.want, at(x.name))
		holdPrint(t, "#"+x.want, id(x.name))
		holdPrint(t, "#"+x.asHash, hash(x.name))
		if !powerWrong.MatchString(x.name) {
			holdPrint(t, "1"+x.want, measure("1", x.name))
		}
	}
}

func TestPrintOfUnits(t *testing.T) {
	for unit, want := range map[string]string{
		"e": "e", "E": "E", "em": "em", "ex": "ex", "e-": "e-", "e--": "e--", "e--3": "e--3", "e-x3": "e-x3", "ee3": "ee3", "x-e3": "x-e3", "-e3": "-e3", "e_3": "e_3", "e\u0663": "e\u0663", "eE-3": "eE-3",
		"e3": `\65 3`, "E3": `\45 3`, "e0": `\65 0`, "e9x": `\65 9x`, "e-3": `\65 -3`, "E-0": `\45 -0`, "e-3-e3": `\65 -3-e3`, "e3e3": `\65 3e3`, "e3.": `\65 3\2E `, "E-9\xFF": `\45 -9` + "\uFFFD",
		"e+3": `e\2B 3`, "e.3": `e\2E 3`, "e ": `e\20 `, "e-+3": `e-\2B 3`, "": "", "%": `\25 `,
	} {
		for _, value := range []string{"1", "-.5", "1e3", ""} {
			holdPrint(t, value+want, measure(value, unit))
		}
		if unit != "" {
			hold(t, Print(row(measure("1.5E-2", unit))))
		}
	}
}

func TestPrintOfTexts(t *testing.T) {
	for value, want := range map[string]string{
		"": "", "a b": "a b", "'": "'", `"`: `\"`, `\`: `\\`, "\n": `\A `, "\f": `\C `, "\r": `\D `, "\r\n": `\D \A `, `""`: `\"\"`, `\\`: `\\\\`, `\"`: `\\\"`, `"\`: `\"\\`, "\\\n": `\\\A `,
		"a\nb": `a\A b`, "\n1": `\A 1`, "\n ": `\A  `, "\t": "\t", "\v": "\v", "\x01\x1F\x7F": "\x01\x1F\x7F", "\x00": "\x00", "\u0085\u2028": "\u0085\u2028", "\u05D0\U0010FFFF": "\u05D0\U0010FFFF", "/*a*/": "/*a*/", "41": "41", "{;}": "{;}",
		"\xFF": "\uFFFD", "\xE2\x82\"": "\uFFFD\\\"", "\xED\xA0\x80": "\uFFFD\uFFFD\uFFFD",
	} {
		holdPrint(t, `"`+want+`"`, text(value))
		holdPrint(t, `"`+want, bad(value))
		holdPrint(t, `"`+want+"\n", bad(value), white)
		if value != "\x00" && !strings.ContainsAny(want, "\uFFFD") {
			holdTokens(t, `"`+want+`"`, text(value))
			holdTokens(t, `"`+want+"\n", bad(value), white)
		}
	}
}

func TestPrintOfAllCharacters(t *testing.T) {
	for r := rune(0); r <= 0x10FFFF; r++ {
		if r > 0x3000 && r%251 != 0 && r < 0x10FF00 {
			continue
		}
		c := string(r)
		for _, x := range []Token{ident(c), function("a" + c), at("-" + c), id(c + c), hash(c), text(c), bad(c), measure("1", c), measure("1", "e"+c), measure("1", "e-"+c)} {
			if s, want := Print(row(x)), wantPrint(row(x)); s != want {
				t.Fatalf("Print(%s) = %+q, want %+q", show(row(x)), s, want)
			}
		}
	}
}

func TestPrintOfOtherValuesAsTheyStand(t *testing.T) {
	for _, s := range []string{"", "1", "x y", "/*", "\"", "\\", "\n", "\x00", "((", "\u05D0"} {
		holdPrint(t, s, num(s))
		holdPrint(t, s+"%", percent(s))
		holdPrint(t, s+"px", measure(s, "px"))
		holdPrint(t, s, sign(s))
		holdPrint(t, s, delim(s))
	}
}

func TestPrintLooksAtWhatAKindHasAlone(t *testing.T) {
	for kind, want := range map[uint8]string{White: " ", Ident: "a", Func: "a(", At: "@a", Hash: "#a", Text: `"a"`, Bad: `"a`, Number: "a", Percent: "a%", Measure: "ab", Sign: "a", Delim: "a", Open: "<!--", Close: "-->"} {
		holdPrint(t, want, Token{Kind: kind, Value: "a", Unit: "b", ID: true})
	}
	holdPrint(t, `\31 `, Token{Kind: Ident, Value: "1", ID: false})
	holdPrint(t, `1\31 `, Token{Kind: Measure, Value: "1", Unit: "1", ID: true})
}

// White

func TestPrintOfWhiteBehindOthers(t *testing.T) {
	list := append(allKinds(), delim("/"), delim(`\\`), sign(`\`), ident(`\`), num(`\`), text(`\`), Token{}, Token{Kind: 15, Value: `\`})
	for _, x := range list {
		holdPrint(t, Print(row(x))+between(x, white)+" ", x, white)
	}
	holdPrint(t, "\"a\n", bad("a"), white)
	holdPrint(t, "\"\n", bad(""), white)
	holdPrint(t, "\\\n", delim(`\`), white)
	holdPrint(t, "\"\n/**/ ", bad(""), white, white)
	holdPrint(t, "\\\n/**/ /**/ ", delim(`\`), white, white, white)
	holdPrint(t, " \\\n", white, delim(`\`), white)
	holdPrint(t, "\"a\n\"b\n", bad("a"), white, bad("b"), white)
	holdPrint(t, "\"a ", bad("a"), Token{}, white)
}

// allKinds are tokens of all kinds; none of them makes an A of a White behind it.
func allKinds() []Token {
	return row(white, ident("a"), function("a"), at("a"), hash("1"), id("a"), text("a"), num("1"), percent("1"), measure("1", "px"), sign("("), sign(")"), sign(";"), sign("{"), delim("+"), delim("#"), openMark, closeMark)
}

// What stands between two tokens

// between is the chapter's sentence, as a table of what stands ahead: what is told apart from what follows it.
func between(a, b Token) string {
	const joins = "Ident Func Number Percent Measure Delim Close"
	behind := map[string]string{"White": "White", "Ident": joins + " (", "At": joins, "Hash": joins, "Number": joins, "Percent": joins, "Measure": joins, "Delim": joins}[nameOf(a)]
	if slices.Contains(strings.Fields(behind), nameOf(b)) || b.Kind == Sign && slices.Contains(strings.Fields(behind), b.Value) {
		return "/**/"
	}
	return ""
}

func nameOf(x Token) string {
	names := strings.Fields("none White Ident Func At Hash Text Bad Number Percent Measure Sign Delim Open Close")
	if int(x.Kind) >= len(names) {
		return "none"
	}
	return names[x.Kind]
}

func TestPrintOfEveryPairOfKinds(t *testing.T) {
	list := append(allKinds(), delim("/"), delim("*"), delim("-"), delim("<"), delim("@"), delim("%"), delim("("), ident("("), ident("-"), measure("1", "e"), num("("), text("("))
	apart := 0
	for _, x := range list {
		for _, y := range list {
			want := Print(row(x)) + between(x, y) + Print(row(y))
			holdPrint(t, want, x, y)
			holdPrint(t, ";"+want+";", sign(";"), x, y, sign(";"))
			if between(x, y) != "" {
				apart++
			}
		}
	}
	if apart == 0 || apart == len(list)*len(list) {
		t.Errorf("%d pairs are held apart", apart)
	}
}

func TestEveryPairOfKindsIsReadAgain(t *testing.T) {
	list := append(allKinds(), delim("/"), delim("*"), delim("-"), delim("<"), delim("!"), delim("@"), delim("."), delim("%"), delim(">"), ident("--"), ident("-"), ident("e3"), ident("\uFFFD"), ident("1"), function("--"), num("+1"), num(".5"), num("1e3"), percent("-1"), measure("1", "e"), measure("1", "e3"), measure("1", "--"), measure("-1", "-"), hash("-"), id("--"), id("1"), at("--"), at("-1"), text("*/"), text(""))
	for _, x := range list {
		for _, y := range list {
			for _, z := range row(white, ident("b"), num("2"), sign("("), delim("*")) {
				if l := Tokens(Print(row(x, y, z))); !slices.Equal(l, row(x, y, z)) {
					t.Errorf("%s is printed as %q and read again as %s", show(row(x, y, z)), Print(row(x, y, z)), show(l))
				}
			}
		}
	}
}

// Wrong inputs

func TestPrintOfKindsThatAreNone(t *testing.T) {
	for _, kind := range []uint8{0, 15, 16, 100, 128, math.MaxUint8} {
		x := Token{Kind: kind, Value: "a", Unit: "b", ID: true}
		holdPrint(t, "", x)
		holdPrint(t, "", x, x)
		for _, y := range allKinds() {
			holdPrint(t, Print(row(y)), x, y)
			holdPrint(t, Print(row(y)), y, x)
		}
		holdPrint(t, "ab", ident("a"), x, ident("b"))
		holdPrint(t, "  ", white, x, white)
	}
	for kind := 15; kind < 256; kind++ {
		holdPrint(t, "", Token{Kind: uint8(kind), Value: "a"})
	}
}

func TestPrintOfNothing(t *testing.T) {
	for _, l := range [][]Token{nil, {}, row(ident("a"))[:0], make([]Token, 5)} {
		if s := Print(l); s != "" {
			t.Errorf("%q", s)
		}
	}
}

func TestPrintOfEmptyTokens(t *testing.T) {
	holdPrint(t, "", ident(""))
	holdPrint(t, "(", function(""))
	holdPrint(t, "@", at(""))
	holdPrint(t, "#", hash(""))
	holdPrint(t, "#", id(""))
	holdPrint(t, `""`, text(""))
	holdPrint(t, `"`, bad(""))
	holdPrint(t, "%", percent(""))
	holdPrint(t, "/**/", ident(""), ident(""))
	holdPrint(t, "", sign(""), sign(""))
}
