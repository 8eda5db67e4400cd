package csstok

import (
	"fmt"
	"math/rand"
	"regexp"
	"slices"
	"strconv"
	"strings"
	"testing"
	"unicode/utf8"

	"selvedge/utf"
)

// A second account of the chapter beside the program: what stands where is told by regular expressions, over a text with its line ends made one sign.
const (
	escaped  = `\\(?:[0-9A-Fa-f]{1,6}[\t\n ]?|[^\n]|$)`
	nameSign = `[A-Za-z0-9_\x{80}-\x{10FFFF}-]`
	nameRest = `(?:` + nameSign + `|` + escaped + `)`
	nameAll  = `(?:-?(?:[A-Za-z_\x{80}-\x{10FFFF}]|` + escaped + `)|--)` + nameRest + `*`
	number   = `[+-]?(?:[0-9]+(?:\.[0-9]+)?|\.[0-9]+)(?:[eE][+-]?[0-9]+)?`
)

var (
	lineEnds    = strings.NewReplacer("\r\n", "\n", "\r", "\n", "\f", "\n", "\x00", "\uFFFD")
	commentNext = regexp.MustCompile(`^(?s:/\*.*?(?:\*/|$))`)
	escapeNext  = regexp.MustCompile(escaped)
	textEscape  = regexp.MustCompile(`\\\n|\\$|` + escaped)
	whiteNext   = regexp.MustCompile(`^[\t\n ]+`)
	textNext    = regexp.MustCompile(`^"((?:[^"\\\n]|\\\n|` + escaped + `)*)("?)`)
	quoteNext   = regexp.MustCompile(`^'((?:[^'\\\n]|\\\n|` + escaped + `)*)('?)`)
	hashNext    = regexp.MustCompile(`^#(` + nameRest + `+)`)
	percentNext = regexp.MustCompile(`^(` + number + `)%`)
	numberNext  = regexp.MustCompile(`^` + number)
	funcNext    = regexp.MustCompile(`^(` + nameAll + `)\(`)
	identNext   = regexp.MustCompile(`^` + nameAll)
	atNext      = regexp.MustCompile(`^@(` + nameAll + `)`)
)

// wantTokens tells by the second account what Tokens tells.
func wantTokens(s string) []Token {
	var out []Token
	s = lineEnds.Replace(utf.String(utf.Runes(s)))
	for {
		for commentNext.MatchString(s) {
			s = s[len(commentNext.FindString(s)):]
		}
		if s == "" {
			return out
		}
		t, n := wantOne(s)
		out, s = append(out, t), s[n:]
	}
}

// wantOne tells the token with which a text begins, and how many bytes it has.
func wantOne(s string) (Token, int) {
	if m := whiteNext.FindString(s); m != "" {
		return Token{Kind: 1}, len(m)
	}
	for _, next := range []*regexp.Regexp{textNext, quoteNext} {
		if m := next.FindStringSubmatch(s); m != nil {
			return wantText(s, m)
		}
	}
	if m := hashNext.FindStringSubmatch(s); m != nil {
		return Token{Kind: 5, Value: meant(m[1]), ID: identNext.MatchString(m[1])}, len(m[0])
	}
	if m := numberNext.FindString(s); m != "" {
		return wantNumber(s, m)
	}
	switch {
	case strings.HasPrefix(s, "<!--"):
		return Token{Kind: 13}, 4
	case strings.HasPrefix(s, "-->"):
		return Token{Kind: 14}, 3
	}
	if m := funcNext.FindStringSubmatch(s); m != nil {
		return Token{Kind: 3, Value: meant(m[1])}, len(m[0])
	}
	if m := identNext.FindString(s); m != "" {
		return Token{Kind: 2, Value: meant(m)}, len(m)
	}
	if m := atNext.FindStringSubmatch(s); m != nil {
		return Token{Kind: 4, Value: meant(m[1])}, len(m[0])
	}
	_, n := utf8.DecodeRuneInString(s)
	one := s[:n]
	if strings.Contains(", : ; ( ) [ ] { }", one) {
		return Token{Kind: 11, Value: one}, len(one)
	}
	return Token{Kind: 12, Value: one}, len(one)
}

func wantText(s string, m []string) (Token, int) {
	value := textEscape.ReplaceAllStringFunc(m[1], func(e string) string {
		if e == "\\" || e == "\\\n" {
			return ""
		}
		return meantBy(e)
	})
	if m[2] == "" && len(m[0]) < len(s) {
		return Token{Kind: 7, Value: value}, len(m[0])
	}
	return Token{Kind: 6, Value: value}, len(m[0])
}

// wantNumber tells what a text begins with that begins with the number m.
func wantNumber(s, m string) (Token, int) {
	if u := identNext.FindString(s[len(m):]); u != "" {
		return Token{Kind: 10, Value: m, Unit: meant(u)}, len(m) + len(u)
	}
	if p := percentNext.FindStringSubmatch(s); p != nil {
		return Token{Kind: 9, Value: p[1]}, len(p[0])
	}
	return Token{Kind: 8, Value: m}, len(m)
}

// meant tells a name with its escapes being what they stand for.
func meant(name string) string { return escapeNext.ReplaceAllStringFunc(name, meantBy) }

// meantBy tells what one escape stands for.
func meantBy(escape string) string {
	body := escape[1:]
	if body == "" {
		return "\uFFFD"
	}
	v, err := strconv.ParseUint(strings.TrimRight(body, "\t\n "), 16, 32)
	switch {
	case err != nil:
		return body
	case v == 0 || v > 0xD7FF && v < 0xE000 || v > 0x10FFFF:
		return "\uFFFD"
	}
	return string(rune(v))
}

// The chapter's words on what is escaped in names: two expressions for where, one for what.
var (
	nameWrong  = regexp.MustCompile(`[^A-Za-z0-9_\x{80}-\x{10FFFF}-]`)
	firstWrong = regexp.MustCompile(`^-?[0-9]|^-$`)
	powerWrong = regexp.MustCompile(`^[eE]-?[0-9]`)
)

// byNumber tells a character's escape.
func byNumber(one string) string {
	for _, r := range one {
		return fmt.Sprintf("\\%X ", r)
	}
	return ""
}

// wantName tells how a name is printed: what stands wrong at its beginning is escaped, and what is wrong anywhere.
func wantName(s string) string {
	s = utf.String(utf.Runes(s))
	at := firstWrong.FindStringIndex(s)
	if at == nil {
		return nameWrong.ReplaceAllStringFunc(s, byNumber)
	}
	ahead, wrong, behind := s[:at[1]-1], s[at[1]-1:at[1]], s[at[1]:]
	return ahead + byNumber(wrong) + nameWrong.ReplaceAllStringFunc(behind, byNumber)
}

func wantUnit(s string) string {
	if powerWrong.MatchString(s) {
		return byNumber(s[:1]) + nameWrong.ReplaceAllStringFunc(utf.String(utf.Runes(s[1:])), byNumber)
	}
	return wantName(s)
}

var textSigns = strings.NewReplacer(`"`, `\"`, `\`, `\\`, "\n", `\A `, "\f", `\C `, "\r", `\D `)

// wantQuoted tells a text as it is printed, but for the last quote.
func wantQuoted(s string) string { return `"` + textSigns.Replace(utf.String(utf.Runes(s))) }

// wantPrinted tells the text of one token, but for what White is behind others.
func wantPrinted(t Token) string {
	switch t.Kind {
	case 1:
		return " "
	case 2:
		return wantName(t.Value)
	case 3:
		return wantName(t.Value) + "("
	case 4:
		return "@" + wantName(t.Value)
	case 5:
		if !t.ID {
			return "#" + nameWrong.ReplaceAllStringFunc(utf.String(utf.Runes(t.Value)), byNumber)
		}
		return "#" + wantName(t.Value)
	case 6, 7:
		return wantQuoted(t.Value) + `"`[t.Kind-6:]
	case 8, 11, 12:
		return t.Value
	case 9:
		return t.Value + "%"
	case 10:
		return t.Value + wantUnit(t.Unit)
	case 13:
		return "<!--"
	case 14:
		return "-->"
	}
	return ""
}

// wantBetween is the chapter's sentence, by the kinds' numbers: those of Ident, At, Hash, Number, Percent, Measure, Delim; of Ident, Func, Number, Percent, Measure, Delim, Close.
func wantBetween(a, b Token) string {
	firsts, seconds := []uint8{2, 4, 5, 8, 9, 10, 12}, []uint8{2, 3, 8, 9, 10, 12, 14}
	switch {
	case a.Kind == 1 && b.Kind == 1, slices.Contains(firsts, a.Kind) && slices.Contains(seconds, b.Kind), a.Kind == 2 && b.Kind == 11 && b.Value == "(":
		return "/**/"
	}
	return ""
}

// wantPrint tells by the second account what Print tells.
func wantPrint(l []Token) string {
	out := ""
	for i, t := range l {
		text := wantPrinted(t)
		if i > 0 {
			out += wantBetween(l[i-1], t)
			if ahead := l[i-1]; t.Kind == 1 && (ahead.Kind == 7 || ahead.Kind == 12 && ahead.Value == "\\") {
				text = "\n"
			}
		}
		out += text
	}
	return out
}

// Makers of tokens, for tests by hand.
var white = Token{Kind: White}

func ident(s string) Token         { return Token{Kind: Ident, Value: s} }
func function(s string) Token      { return Token{Kind: Func, Value: s} }
func at(s string) Token            { return Token{Kind: At, Value: s} }
func hash(s string) Token          { return Token{Kind: Hash, Value: s} }
func id(s string) Token            { return Token{Kind: Hash, Value: s, ID: true} }
func text(s string) Token          { return Token{Kind: Text, Value: s} }
func bad(s string) Token           { return Token{Kind: Bad, Value: s} }
func num(s string) Token           { return Token{Kind: Number, Value: s} }
func percent(s string) Token       { return Token{Kind: Percent, Value: s} }
func measure(s, unit string) Token { return Token{Kind: Measure, Value: s, Unit: unit} }
func sign(s string) Token          { return Token{Kind: Sign, Value: s} }
func delim(s string) Token         { return Token{Kind: Delim, Value: s} }

var openMark, closeMark = Token{Kind: Open}, Token{Kind: Close}

// row tells tokens as a list.
func row(list ...Token) []Token { return list }

// show tells tokens in one line, all their fields; not all of very many.
func show(l []Token) string {
	var b strings.Builder
	for _, t := range l[:min(len(l), 30)] {
		fmt.Fprintf(&b, "{%d %+q %+q %v}", t.Kind, t.Value, t.Unit, t.ID)
	}
	return b.String()
}

// brief tells a text, cut where it is too long to be read.
func brief(s string) string {
	s = fmt.Sprintf("%+q", s)
	return s[:min(len(s), 500)]
}

// holdTokens holds Tokens against tokens that are written out, and the second account along with it.
func holdTokens(t *testing.T, s string, list ...Token) {
	t.Helper()
	if l := Tokens(s); !slices.Equal(l, list) {
		t.Errorf("Tokens(%s) = %s, want %s", brief(s), show(l), show(list))
	}
	hold(t, s)
}

// hold holds Tokens and Print against the second account, and each other.
func hold(t *testing.T, s string) {
	t.Helper()
	l := Tokens(s)
	if want := wantTokens(s); !slices.Equal(l, want) {
		t.Fatalf("Tokens(%s) = %s, want %s", brief(s), show(l), show(want))
	}
	printed := Print(l)
	if want := wantPrint(l); printed != want {
		t.Fatalf("Print(%s) = %s, want %s", show(l), brief(printed), brief(want))
	}
	if again := Tokens(printed); !slices.Equal(again, l) {
		t.Fatalf("%s is printed as %s, of which the tokens are %s, not %s", brief(s), brief(printed), show(again), show(l))
	}
	for _, x := range l {
		holdFields(t, s, x)
	}
}

// holdFields holds a token against what its kind has.
func holdFields(t *testing.T, s string, x Token) {
	t.Helper()
	mayBeEmpty := x.Kind == White || x.Kind == Open || x.Kind == Close || x.Kind == Text || x.Kind == Bad
	switch {
	case x.Kind == 0 || x.Kind > Close, x.Value == "" && !mayBeEmpty, x.ID && x.Kind != Hash, (x.Unit != "") != (x.Kind == Measure):
		t.Fatalf("a token of %s is %s", brief(s), show(row(x)))
	case x.Value != "" && (x.Kind == White || x.Kind == Open || x.Kind == Close):
		t.Fatalf("a token of %s has a value: %s", brief(s), show(row(x)))
	}
}

// holdPrint holds Print against a text, and the second account along with it.
func holdPrint(t *testing.T, want string, list ...Token) {
	t.Helper()
	if s := Print(list); s != want {
		t.Errorf("Print(%s) = %s, want %s", show(list), brief(s), brief(want))
	}
	if s := wantPrint(list); s != want {
		t.Errorf("the second account tells %s as %s, not %s", show(list), brief(s), brief(want))
	}
}

// parts are pieces of sheets in which much may be read in two ways.
func parts() []string {
	return []string{
		"a", "e", "E", "e3", "x-y", "-", "--", "_", "0", "1", "25", "+", ".", "1.5", "1e3", "px", "%", "#", "@", "\\", "\\\\", "\\\n", "\\31", "\\31 ", "\\65 ", "\\000041", "\\2D", "\\0", "\\D800", "\\110000", "\\\"", "\\'", "\\A ", "\\g",
		"\"", "'", "\n", "\r", "\r\n", "\f", "\t", " ", "\x00", "/*", "*/", "/**/", "/", "*", "<", "!", "<!--", "-->", ">", "(", ")", "[", "]", "{", "}", ",", ":", ";", "&", "=", "\x7F", "\x01", "\v",
		"\u0080", "\u05D0", "\uFFFD", "\U0010FFFF", "\xFF", "\xE2\x82", "\xED\xA0\x80", "url(", "important",
	}
}

// jumble tells some parts, one behind the other.
func jumble(source *rand.Rand, most int) string {
	list := parts()
	var b strings.Builder
	for range source.Intn(most + 1) {
		b.WriteString(list[source.Intn(len(list))])
	}
	return b.String()
}
