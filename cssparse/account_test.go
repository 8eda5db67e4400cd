package cssparse

import (
	"fmt"
	"math/rand"
	"regexp"
	"strings"
	"testing"

	"selvedge/api"
	"selvedge/csstok"
)

// A second account of the chapter beside the program: tokens are told as letters, one each, and what they are by regular expressions over these.
//
// w White, i Ident (I: important, in any letters), f Func, @ At, H Hash with ID, h without, t Text, b Bad, n numbers, < Open, - Close, Signs and some Delims as they stand, d the others.
func letters(l []csstok.Token) string {
	var b strings.Builder
	for _, t := range l {
		b.WriteByte(letter(t))
	}
	return b.String()
}

func letter(t csstok.Token) byte {
	switch {
	case t.Kind == csstok.Ident && importantWord.MatchString(t.Value):
		return 'I'
	case t.Kind == csstok.Hash && t.ID:
		return 'H'
	case t.Kind == csstok.Sign, t.Kind == csstok.Delim && strings.Contains("!>+*.=", t.Value):
		return t.Value[0]
	}
	return "?wif@htbnnn?d<-"[t.Kind]
}

// pieceLen tells how many letters the piece has with which a row of them begins.
func pieceLen(s string) int {
	closer := map[byte]byte{'{': '}', '(': ')', 'f': ')', '[': ']'}[s[0]]
	n := 1
	for closer != 0 && n < len(s) {
		if s[n] == closer {
			return n + 1
		}
		n += pieceLen(s[n:])
	}
	return n
}

// outline tells letters with all that stands within a piece being x, and the sign that closes it X.
func outline(s string) string {
	var b strings.Builder
	for s != "" {
		n := pieceLen(s)
		b.WriteByte(s[0])
		if n > 1 {
			end := "x"
			if closes(s[:n]) {
				end = "X"
			}
			b.WriteString(strings.Repeat("x", n-2) + end)
		}
		s = s[n:]
	}
	return b.String()
}

// closes tells whether a piece of more than a letter is closed: one letter more belongs to it, if it is not.
func closes(piece string) bool { return pieceLen(piece+"w") == len(piece) }

const (
	nameOf     = `[iI]`
	testOf     = `\[w*[iI]w*(?:=w*[iIt]w*)?\]`
	partOf     = `(?:H|\.[iI]|` + testOf + `)`
	compoundOf = `(?:[iI*]` + partOf + `*|` + partOf + `+)`
	selectorOf = `w*` + compoundOf + `(?:(?:w*[>+]w*|w+)` + compoundOf + `)*w*`
)

var (
	importantWord = regexp.MustCompile(`^(?i:important)$`)
	sheetNext     = regexp.MustCompile(`^(?:[w<-]+|@[^;{]*(?:;|\{x*X?)?|([^{]*)(\{x*X?)?)`)
	styleNext     = regexp.MustCompile(`^(?:[w;]+|@[^;{]*(?:;|\{x*X?)?|([^;]+))`)
	declaration   = regexp.MustCompile(`^[iI]w*:w*(.*?)(w*!w*I)?w*$`)
	strayCloser   = regexp.MustCompile(`[)}\]]`)
	selectorRow   = regexp.MustCompile(`^` + selectorOf + `(?:,` + selectorOf + `)*$`)
	compoundNext  = regexp.MustCompile(`([w>+]*)(` + compoundOf + `)`)
	partNext      = regexp.MustCompile(`^[iI*]|` + partOf)
	greatLetters  = regexp.MustCompile(`[A-Z]`)
)

func wantSmall(s string) string { return greatLetters.ReplaceAllStringFunc(s, strings.ToLower) }

// wantRules tells all rules that are not dropped, however many.
func wantRules(s string) []Rule {
	var out []Rule
	l := csstok.Tokens(s)
	for rest := outline(letters(l)); rest != ""; {
		m := sheetNext.FindStringSubmatchIndex(rest)
		if m[4] >= 0 {
			block := l[m[4]+1 : m[5]]
			if rest[m[5]-1] == 'X' {
				block = l[m[4]+1 : m[5]-1]
			}
			if row, ok := wantRow(l[m[2]:m[3]]); ok {
				out = append(out, Rule{Selectors: row, Decls: wantDecls(block)})
			}
		}
		l, rest = l[m[1]:], rest[m[1]:]
	}
	return out
}

// wantDecls tells all declarations out of tokens.
func wantDecls(l []csstok.Token) []Decl {
	var out []Decl
	for rest := outline(letters(l)); rest != ""; {
		m := styleNext.FindStringSubmatchIndex(rest)
		if m[2] >= 0 {
			out = append(out, wantDecl(l[m[2]:m[3]])...)
		}
		l, rest = l[m[1]:], rest[m[1]:]
	}
	return out
}

// wantDecl tells the declaration that tokens are, or none.
func wantDecl(l []csstok.Token) []Decl {
	s := letters(l)
	m := declaration.FindStringSubmatchIndex(s)
	if m == nil {
		return nil
	}
	value := s[m[2]:m[3]]
	if value == "" || strings.Contains(value, "b") || strayCloser.MatchString(outline(value)) {
		return nil
	}
	return []Decl{{Name: wantSmall(l[0].Value), Value: csstok.Print(l[m[2]:m[3]]), Important: m[4] >= 0}}
}

// wantRow tells the row of selectors that tokens are, if they are one.
func wantRow(l []csstok.Token) ([]Selector, bool) {
	s := letters(l)
	if !selectorRow.MatchString(s) {
		return nil, false
	}
	var out []Selector
	for _, one := range strings.Split(s, ",") {
		var sel Selector
		for _, m := range compoundNext.FindAllStringSubmatchIndex(one, -1) {
			c := wantCompound(l[m[4]:m[5]])
			c.Join = wantJoin(one[m[2]:m[3]], len(sel) == 0)
			sel = append(sel, c)
		}
		out = append(out, sel)
		l = l[min(len(one)+1, len(l)):]
	}
	return out, true
}

// wantJoin tells how a compound is joined by what stands ahead of it: by number, as the chapter lists them.
func wantJoin(ahead string, first bool) uint8 {
	switch {
	case first:
		return 0
	case strings.Contains(ahead, ">"):
		return 2
	case strings.Contains(ahead, "+"):
		return 3
	}
	return 1
}

func wantCompound(l []csstok.Token) Compound {
	var c Compound
	s := letters(l)
	for _, m := range partNext.FindAllStringIndex(s, -1) {
		switch first := l[m[0]]; s[m[0]] {
		case 'i', 'I':
			c.Type = wantSmall(first.Value)
		case 'H':
			c.IDs = append(c.IDs, first.Value)
		case '.':
			c.Classes = append(c.Classes, l[m[0]+1].Value)
		case '[':
			c.Tests = append(c.Tests, wantTest(l[m[0]:m[1]]))
		}
	}
	return c
}

func wantTest(l []csstok.Token) Test {
	var words []string
	has := false
	for _, t := range l {
		if t.Kind == csstok.Ident || t.Kind == csstok.Text {
			words = append(words, t.Value)
		}
		has = has || t.Value == "=" && t.Kind == csstok.Delim
	}
	if !has {
		return Test{Name: wantSmall(words[0])}
	}
	return Test{Name: wantSmall(words[0]), Value: words[1], Has: true}
}

// wantParse, wantStyle and wantSelect tell what the three calls tell.
func wantParse(s string) ([]Rule, api.Errno) {
	if len(s) > 65536 {
		return nil, 3
	}
	rules := wantRules(s)
	for _, r := range rules {
		for _, sel := range r.Selectors {
			if len(sel) > 256 {
				return nil, 80
			}
		}
		if len(r.Selectors) > 256 || len(r.Decls) > 256 {
			return nil, 80
		}
	}
	if len(rules) > 256 {
		return nil, 80
	}
	return rules, 0
}

func wantStyle(s string) ([]Decl, api.Errno) {
	if len(s) > 65536 {
		return nil, 3
	}
	l := wantDecls(csstok.Tokens(s))
	if len(l) > 256 {
		return nil, 80
	}
	return l, 0
}

func wantSelect(s string) ([]Selector, bool) {
	if len(s) > 65536 {
		return nil, false
	}
	return wantRow(csstok.Tokens(s))
}

// showRow tells a row of selectors in one line, all their fields.
func showRow(row []Selector) string {
	var list []string
	for _, sel := range row {
		var b strings.Builder
		for _, c := range sel {
			b.WriteString(showCompound(c))
		}
		list = append(list, b.String())
	}
	return strings.Join(list, ", ")
}

func showCompound(c Compound) string {
	joins := []string{"", " ", ">", "+"}
	out := fmt.Sprint("?", c.Join)
	if int(c.Join) < len(joins) {
		out = joins[c.Join]
	}
	if c.Type == "" {
		out += "*"
	} else {
		out += fmt.Sprintf("%+q", c.Type)
	}
	for _, x := range c.IDs {
		out += fmt.Sprintf("#%+q", x)
	}
	for _, x := range c.Classes {
		out += fmt.Sprintf(".%+q", x)
	}
	for _, x := range c.Tests {
		out += fmt.Sprintf("[%+q", x.Name)
		if x.Has || x.Value != "" {
			out += fmt.Sprintf("=%+q", x.Value)
		}
		if !x.Has && x.Value != "" {
			out += "?"
		}
		out += "]"
	}
	return out
}

// showDecls tells declarations in one line; an important one ends in !.
func showDecls(l []Decl) string {
	var list []string
	for _, d := range l {
		one := fmt.Sprintf("%+q:%+q", d.Name, d.Value)
		if d.Important {
			one += "!"
		}
		list = append(list, one)
	}
	return strings.Join(list, "; ")
}

func showRules(l []Rule) string {
	var list []string
	for _, r := range l {
		list = append(list, showRow(r.Selectors)+"{"+showDecls(r.Decls)+"}")
	}
	return strings.Join(list, " ")
}

// brief tells a text, cut where it is too long to be read.
func brief(s string) string {
	s = fmt.Sprintf("%+q", s)
	return s[:min(len(s), 500)]
}

// hold holds the three calls against the second account.
func hold(t *testing.T, s string) {
	t.Helper()
	rules, e := Parse(s)
	wantedRules, wantedE := wantParse(s)
	if got, want := showRules(rules), showRules(wantedRules); got != want || e != wantedE {
		t.Fatalf("Parse(%s) = %s, %d, want %s, %d", brief(s), brief(got), e, brief(want), wantedE)
	}
	decls, e := Style(s)
	wantedDecls, wantedE := wantStyle(s)
	if got, want := showDecls(decls), showDecls(wantedDecls); got != want || e != wantedE {
		t.Fatalf("Style(%s) = %s, %d, want %s, %d", brief(s), brief(got), e, brief(want), wantedE)
	}
	row, ok := Select(s)
	wantedRow, wantedOK := wantSelect(s)
	if got, want := showRow(row), showRow(wantedRow); got != want || ok != wantedOK || ok != (len(row) > 0) {
		t.Fatalf("Select(%s) = %s, %v, want %s, %v", brief(s), brief(got), ok, brief(want), wantedOK)
	}
}

// holdParse, holdStyle and holdSelect hold a call against an answer that is written out, and the second account along with it.
func holdParse(t *testing.T, s, want string) {
	t.Helper()
	l, e := Parse(s)
	if got := showRules(l); got != want || e != api.OK {
		t.Errorf("Parse(%s) = %s, %d, want %s", brief(s), got, e, want)
	}
	hold(t, s)
}

func holdStyle(t *testing.T, s, want string) {
	t.Helper()
	l, e := Style(s)
	if got := showDecls(l); got != want || e != api.OK {
		t.Errorf("Style(%s) = %s, %d, want %s", brief(s), got, e, want)
	}
	hold(t, s)
}

// holdSelect: an empty answer is that there is none.
func holdSelect(t *testing.T, s, want string) {
	t.Helper()
	l, ok := Select(s)
	if got := showRow(l); got != want || ok != (want != "") {
		t.Errorf("Select(%s) = %s, %v, want %s", brief(s), got, ok, want)
	}
	hold(t, s)
}

// parts are pieces of sheets in which much may go wrong.
func parts() []string {
	return []string{
		"a", "B", "c-D", "#i", "#1", "#\\31 ", ".", ".k", "*", ">", "+", "~", "|", "=", "[", "]", "[x]", "[X=y]", "[x=\"y\"]", "[ x = 'y' ]", "(", ")", "f(", "{", "}", "{}", ",", ":", ";", "!", "!important", "! IMPORTANT", "important", "Important",
		"@", "@m", "@M{", "<!--", "-->", "--", "\"", "\"q\"", "'", "\n", " ", "  ", "/**/", "/*", "1", "2px", "3%", "\\", "\\41 ", "a:b", "a:b;", "P{q:r}", "d:e!important;", "\xFF", "\x00", "\u212A", "\u0130",
	}
}

// jumble tells some parts, one behind the other.
func jumble(source *rand.Rand, most int) string {
	list := parts()
	var b strings.Builder
	for range source.Intn(most + 1) {
		b.WriteString(list[source.Intn(len(list))])
	}
	return b.String()
}
