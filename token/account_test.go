package token

import (
	"fmt"
	"regexp"
	"strings"
	"testing"

	"selvedge/api"
	"selvedge/charref"
)

// A second account of the chapter beside the program: what stands where is told by regular expressions.
var (
	markBegins   = regexp.MustCompile(`<[A-Za-z/!?]`)
	tagBegins    = regexp.MustCompile(`^<(/?)([A-Za-z][^\t\n\f />]*)`)
	tagName      = regexp.MustCompile(`^[A-Za-z0-9]+$`)
	tagEnds      = regexp.MustCompile(`^[\t\n\f ]*(/?)>`)
	blanksOnly   = regexp.MustCompile(`^[\t\n\f ]*$`)
	slashNext    = regexp.MustCompile(`^[\t\n\f ]*/`)
	nameNext     = regexp.MustCompile(`^[\t\n\f ]*([^\t\n\f =/>]*)`)
	attrName     = regexp.MustCompile(`^[A-Za-z0-9_-]+$`)
	equalNext    = regexp.MustCompile(`^[\t\n\f ]*=[\t\n\f ]*`)
	valueNext    = regexp.MustCompile("^(?:\"([^\"]*)\"|'([^']*)'|([^\\t\\n\\f >\"'<=`]+)(?:[\\t\\n\\f >]|$))")
	commentWhole = regexp.MustCompile(`(?s)^<!--(.*?)-->`)
	commentWrong = regexp.MustCompile(`^-?>|--!>|<!--|<!-$`)
	doctypeWhole = regexp.MustCompile(`(?i)^<!doctype[\t\n\f ]*([^>]*?)[\t\n\f ]*>`)
)

// want tells by the second account what Tokens tells.
func want(s string) ([]Token, api.Errno, int) {
	if len(s) > 65536 {
		return nil, api.ErrLimit, 0
	}
	for i := range len(s) {
		if s[i] == 0 {
			return nil, api.ErrNull, i
		}
	}
	var out []Token
	for at := 0; at < len(s); {
		t, n, e := wantOne(s[at:])
		if e != api.OK {
			return nil, e, at
		}
		out, at = append(out, t), at+n
	}
	return out, api.OK, 0
}

// wantOne tells the token with which a text begins, and how many bytes it has.
func wantOne(s string) (Token, int, api.Errno) {
	if m := markBegins.FindStringIndex(s); m == nil {
		return Token{Kind: 3, Data: charref.Decode(s, false)}, len(s), api.OK
	} else if m[0] > 0 {
		return Token{Kind: 3, Data: charref.Decode(s[:m[0]], false)}, m[0], api.OK
	}
	if tagBegins.MatchString(s) {
		return wantTag(s)
	}
	if strings.HasPrefix(s, "</") {
		return Token{}, 0, api.ErrTag
	}
	if m := commentWhole.FindStringSubmatch(s); m != nil && !commentWrong.MatchString(m[1]) {
		return Token{Kind: 4, Data: m[1]}, len(m[0]), api.OK
	}
	if m := doctypeWhole.FindStringSubmatch(s); m != nil {
		return Token{Kind: 5, Data: m[1]}, len(m[0]), api.OK
	}
	return Token{}, 0, api.ErrMark
}

func wantTag(s string) (Token, int, api.Errno) {
	m := tagBegins.FindStringSubmatch(s)
	if !tagName.MatchString(m[2]) {
		return Token{}, 0, api.ErrTag
	}
	t := Token{Kind: 1, Name: strings.ToLower(m[2])}
	if m[1] == "/" {
		t.Kind = 2
	}
	seen := map[string]int{}
	for n := len(m[0]); ; {
		if m := tagEnds.FindStringSubmatch(s[n:]); m != nil {
			t.Self = m[1] == "/"
			if t.Kind == 2 && (t.Self || t.Attrs != nil) {
				return Token{}, 0, api.ErrTag
			}
			return t, n + len(m[0]), api.OK
		}
		if blanksOnly.MatchString(s[n:]) || slashNext.MatchString(s[n:]) {
			return Token{}, 0, api.ErrTag
		}
		a, l, ok := wantAttr(s[n:])
		seen[a.Name]++
		switch {
		case !ok || seen[a.Name] > 1:
			return Token{}, 0, api.ErrAttr
		case len(seen) > 16:
			return Token{}, 0, api.ErrLimit
		}
		t.Attrs, n = append(t.Attrs, a), n+l
	}
}

func wantAttr(s string) (api.Attr, int, bool) {
	m := nameNext.FindStringSubmatch(s)
	a, n := api.Attr{Name: strings.ToLower(m[1])}, len(m[0])
	if !attrName.MatchString(m[1]) {
		return api.Attr{}, 0, false
	}
	equal := equalNext.FindString(s[n:])
	if equal == "" {
		return a, n, true
	}
	n += len(equal)
	v := valueNext.FindStringSubmatchIndex(s[n:])
	if v == nil {
		return api.Attr{}, 0, false
	}
	behind := len(`"`)
	for i := 2; i < len(v); i += 2 {
		if i == 6 {
			behind = 0
		}
		if v[i] >= 0 {
			a.Value = charref.Decode(s[n+v[i]:n+v[i+1]], true)
			return a, n + v[i+1] + behind, true
		}
	}
	panic("no value")
}

// show tells tokens in one line, all their fields.
func show(l []Token) string {
	var b strings.Builder
	for _, t := range l {
		fmt.Fprintf(&b, "{%d %q", t.Kind, t.Name)
		for _, a := range t.Attrs {
			fmt.Fprintf(&b, " %q=%q", a.Name, a.Value)
		}
		fmt.Fprintf(&b, " %v %q}", t.Self, t.Data)
	}
	return b.String()
}

// check holds Tokens against the second account.
func check(t *testing.T, s string) {
	t.Helper()
	l, e, at := Tokens(s)
	if wl, we, wat := want(s); show(l) != show(wl) || e != we || at != wat {
		t.Fatalf("Tokens(%q) = %s, %d at %d, want %s, %d at %d", s, show(l), e, at, show(wl), we, wat)
	}
}

// wantTokens holds Tokens against tokens that are written out, and the second account along with it.
func wantTokens(t *testing.T, s string, list ...Token) {
	t.Helper()
	if l, e, at := Tokens(s); show(l) != show(list) || e != api.OK || at != 0 {
		t.Errorf("Tokens(%q) = %s, %d at %d, want %s", s, show(l), e, at, show(list))
	}
	check(t, s)
}

// wantError holds Tokens against an error at its place.
func wantError(t *testing.T, s string, e api.Errno, at int) {
	t.Helper()
	if l, ge, gat := Tokens(s); len(l) != 0 || ge != e || gat != at {
		t.Errorf("Tokens(%q) = %s, %d at %d, want %d at %d", s, show(l), ge, gat, e, at)
	}
	check(t, s)
}

// tag makes a start tag; attributes are names and values, in turn.
func tag(name string, attrs ...string) Token {
	t := Token{Kind: Start, Name: name}
	for i := 0; i < len(attrs); i += 2 {
		t.Attrs = append(t.Attrs, api.Attr{Name: attrs[i], Value: attrs[i+1]})
	}
	return t
}

// closed makes a start tag self-closed.
func closed(t Token) Token {
	t.Self = true
	return t
}

func end(name string) Token     { return Token{Kind: End, Name: name} }
func text(data string) Token    { return Token{Kind: Text, Data: data} }
func comment(data string) Token { return Token{Kind: Comment, Data: data} }
func doctype(data string) Token { return Token{Kind: Doctype, Data: data} }
