package tree

import (
	"fmt"
	"regexp"
	"slices"
	"strings"
	"testing"
	"unicode/utf8"

	"selvedge/api"
	"selvedge/token"
	"selvedge/utf"
)

// charted is the chapter's table of elements, word for word, so that the program's own lists are held against another one.
const charted = `
| 1, blocks | div ul ol section article header footer main nav aside blockquote figure |
| 2 | p |
| 3 | li |
| 4, headings | h1 h2 h3 h4 h5 h6 |
| 5, inline | span b i em strong u s small code bdi bdo abbr cite q sub sup mark |
| 6 | a |
| 7, void | br wbr |
| 8, a void block | hr |
`

// chart tells the elements of the chapter's table, in its order, and their kinds.
func chart() ([]string, map[string]uint8) {
	var names []string
	kindOf := map[string]uint8{}
	for _, line := range strings.Split(strings.TrimSpace(charted), "\n") {
		cells := strings.Split(strings.Trim(line, "| "), " | ")
		for _, name := range strings.Fields(cells[1]) {
			names = append(names, name)
			kindOf[name] = cells[0][0] - '0'
		}
	}
	return names, kindOf
}

var _, chartedKinds = chart()

// A second account of the chapter beside the program: what is open is a path as /ul/li/p, of which regular expressions tell what may stand below it.
var (
	pWithin    = regexp.MustCompile(`/p(/|$)`)
	aWithin    = regexp.MustCompile(`/a(/|$)`)
	pAtEnd     = regexp.MustCompile(`/p$`)
	psAtEnd    = regexp.MustCompile(`(/p)*$`)
	psLisAtEnd = regexp.MustCompile(`(/(p|li))*$`)
	liAtEnd    = regexp.MustCompile(`/li$`)
	headAtEnd  = regexp.MustCompile(`/h[1-6]$`)
	liInSight  = regexp.MustCompile(`/li(/(div|p|a|span|b|i|em|strong|u|s|small|code|bdi|bdo|abbr|cite|q|sub|sup|mark))*$`)
	attrName   = regexp.MustCompile(`^[a-z0-9_-]+$`)
)

// standsWrong tells whether an element may not stand at the end of a path.
func standsWrong(path, name string) bool {
	switch chartedKinds[name] {
	case 1, 2, 8:
		return pWithin.MatchString(path)
	case 3:
		return pWithin.MatchString(path) || liInSight.MatchString(path)
	case 4:
		return pWithin.MatchString(path) || headAtEnd.MatchString(path)
	case 6:
		return aWithin.MatchString(path)
	}
	return false
}

// model builds a tree's account by a path: what begins and ends, in one line.
type model struct {
	path  string
	nodes int
	told  []string
}

func (m *model) tell(s string) { m.told = append(m.told, s) }

// close closes what a pattern finds at the path's end.
func (m *model) close(end *regexp.Regexp) {
	at := end.FindStringIndex(m.path)
	if at == nil {
		return
	}
	for range strings.Count(m.path[at[0]:], "/") {
		m.tell(")")
	}
	m.path = m.path[:at[0]]
}

func (m *model) node() api.Errno {
	if m.nodes == 16384 {
		return api.ErrLimit
	}
	m.nodes++
	return api.OK
}

func (m *model) text(data string) api.Errno {
	if data == "" {
		return api.OK
	}
	if last := len(m.told) - 1; last >= 0 && strings.HasPrefix(m.told[last], "'") {
		m.told[last] += data
		return api.OK
	}
	e := m.node()
	m.tell("'" + data)
	return e
}

func (m *model) start(t token.Token) api.Errno {
	kind := chartedKinds[t.Name]
	if t.Self && kind < 7 {
		return api.ErrNest
	}
	if kind == 3 && liInSight.MatchString(m.path) {
		m.close(psAtEnd)
		if !liAtEnd.MatchString(m.path) {
			return api.ErrNest
		}
		m.close(liAtEnd)
	}
	if strings.ContainsRune("\x01\x02\x03\x04\x08", rune(kind)) && pWithin.MatchString(m.path) {
		if !pAtEnd.MatchString(m.path) {
			return api.ErrNest
		}
		m.close(pAtEnd)
	}
	if standsWrong(m.path, t.Name) {
		return api.ErrNest
	}
	if strings.Count(m.path, "/") >= 200 {
		return api.ErrDepth
	}
	e := m.node()
	m.tell("(" + t.Name + attrsOf(t.Attrs))
	if kind < 7 {
		m.path += "/" + t.Name
	} else {
		m.tell(")")
	}
	return e
}

func (m *model) end(name string) api.Errno {
	switch chartedKinds[name] {
	case 1:
		m.close(psLisAtEnd)
	case 3:
		m.close(psAtEnd)
	}
	if !strings.HasSuffix(m.path, "/"+name) {
		return api.ErrNest
	}
	m.close(regexp.MustCompile("/" + name + "$"))
	return api.OK
}

func (m *model) take(t token.Token, i int) api.Errno {
	isTag := t.Kind == 1 || t.Kind == 2
	switch {
	case isTag && chartedKinds[t.Name] == 0:
		return api.ErrElement
	case t.Kind == 1:
		return m.start(t)
	case t.Kind == 2:
		return m.end(t.Name)
	case t.Kind == 3:
		return m.text(t.Data)
	case t.Kind == 5 && i != 0:
		return api.ErrNest
	}
	return api.OK
}

// want tells by the second account what Build tells, the tree in one line.
func want(l []token.Token) (string, api.Errno, int) {
	m := model{nodes: 1}
	for i, t := range l {
		if e := m.take(t, i); e != api.OK {
			return "", e, i
		}
	}
	m.close(regexp.MustCompile(`^.*$`))
	return "(" + strings.Join(m.told, "") + ")", api.OK, 0
}

func attrsOf(l []api.Attr) string {
	s := ""
	for _, a := range l {
		s += fmt.Sprintf(" %q=%q", a.Name, a.Value)
	}
	return s
}

// show tells a tree in one line, as its Kids tell it; of none nothing.
func show(t api.Tree) string {
	if len(t) == 0 {
		return ""
	}
	var b strings.Builder
	var goOn func(i int)
	goOn = func(i int) {
		n := t[i]
		if n.Kind == api.Text {
			b.WriteString("'" + n.Data)
			return
		}
		b.WriteString("(" + n.Name + attrsOf(n.Attrs))
		for _, k := range n.Kids {
			goOn(k)
		}
		b.WriteString(")")
	}
	goOn(0)
	return b.String()
}

// wantRight tells by the second account whether a tree is right.
func wantRight(t api.Tree) bool {
	if len(t) < 1 || len(t) > 16384 || t[0].Kind != 0 || t[0].Up != -1 || !kidsAreUps(t) || !inOrder(t) {
		return false
	}
	paths := make([]string, len(t))
	for i, n := range t {
		if i > 0 {
			paths[i] = paths[n.Up]
		}
		if !wantNode(n, i, paths[i]) {
			return false
		}
		if n.Kind == 1 {
			paths[i] += "/" + n.Name
		}
	}
	return true
}

// kidsAreUps holds Ups and Kids against each other.
func kidsAreUps(t api.Tree) bool {
	kids := make([][]int, len(t))
	for i, n := range t[1:] {
		if n.Up < 0 || n.Up > i || t[n.Up].Kind > 1 || slices.Contains([]string{"br", "wbr", "hr"}, t[n.Up].Name) {
			return false
		}
		kids[n.Up] = append(kids[n.Up], i+1)
	}
	for i, n := range t {
		if !slices.Equal(kids[i], n.Kids) {
			return false
		}
		for j := 1; j < len(n.Kids); j++ {
			if t[n.Kids[j-1]].Kind == 2 && t[n.Kids[j]].Kind == 2 {
				return false
			}
		}
	}
	return true
}

// inOrder tells whether the last descendant of each node stands ahead of its next sibling.
func inOrder(t api.Tree) bool {
	last := make([]int, len(t))
	for i := len(t) - 1; i >= 0; i-- {
		last[i] = i
		for _, k := range t[i].Kids {
			last[i] = max(last[i], last[k])
		}
	}
	for _, n := range t {
		for j := 1; j < len(n.Kids); j++ {
			if last[n.Kids[j-1]] >= n.Kids[j] {
				return false
			}
		}
	}
	return true
}

// wantNode tells whether a node may be what it is, below a path.
func wantNode(n api.Node, i int, path string) bool {
	plain := func(s string) bool { return utf8.ValidString(s) && !strings.Contains(s, "\x00") }
	switch {
	case (n.Kind == 0) != (i == 0) || n.Kind > 2:
		return false
	case n.Kind != 1 && (n.Name != "" || len(n.Attrs) > 0):
		return false
	case n.Kind == 2:
		return n.Data != "" && plain(n.Data)
	case n.Data != "":
		return false
	case n.Kind == 0:
		return true
	}
	seen := map[string]int{}
	for _, a := range n.Attrs {
		seen[a.Name]++
		if seen[a.Name] > 1 || !attrName.MatchString(a.Name) || !plain(a.Value) {
			return false
		}
	}
	return chartedKinds[n.Name] > 0 && len(seen) <= 16 && strings.Count(path, "/") < 200 && !standsWrong(path, n.Name)
}

// tokensOf tells tokens, each element with its end, of which a tree would be made.
func tokensOf(t api.Tree) []token.Token {
	var l []token.Token
	var goOn func(i int)
	goOn = func(i int) {
		n := t[i]
		switch n.Kind {
		case api.Text:
			l = append(l, text(n.Data))
			return
		case api.Element:
			l = append(l, token.Token{Kind: token.Start, Name: n.Name, Attrs: n.Attrs})
		}
		for _, k := range n.Kids {
			goOn(k)
		}
		if n.Kind == api.Element && chartedKinds[n.Name] < 7 {
			l = append(l, end(n.Name))
		}
	}
	goOn(0)
	return l
}

// check holds Build against the second account, and what it builds against what is asked of a right tree.
func check(t *testing.T, l []token.Token) {
	t.Helper()
	u, e, at := Build(l)
	ws, we, wat := want(l)
	if show(u) != ws || e != we || at != wat {
		t.Fatalf("Build(%s) = %s, %d at %d, want %s, %d at %d", brief(l), brief(show(u)), e, at, brief(ws), we, wat)
	}
	if e == api.OK {
		checkRight(t, u, true)
	}
}

// checkRight holds Right against the second account.
func checkRight(t *testing.T, u api.Tree, right bool) {
	t.Helper()
	e := Right(u)
	if e != api.OK && e != api.ErrTree || (e == api.OK) != right || wantRight(u) != right {
		t.Fatalf("Right(%s) = %d, by the second account %v, want %v", brief(u), e, wantRight(u), right)
	}
}

// wantTree holds Parse and Build against a tree that is written out.
func wantTree(t *testing.T, s, tree string) {
	t.Helper()
	u, e, at := Parse([]byte(s))
	if show(u) != tree || e != api.OK || at != 0 {
		t.Errorf("Parse(%s) = %s, %d at %d, want %s", brief(s), brief(show(u)), e, at, brief(tree))
	}
	checkText(t, s)
}

// wantError holds Parse and Build against an error at its place.
func wantError(t *testing.T, s string, e api.Errno, at int) {
	t.Helper()
	if u, ge, gat := Parse([]byte(s)); len(u) != 0 || ge != e || gat != at {
		t.Errorf("Parse(%s) = %s, %d at %d, want %d at %d", brief(s), brief(show(u)), ge, gat, e, at)
	}
	checkText(t, s)
}

// checkText holds Build of the tokens of a document against the second account.
func checkText(t *testing.T, s string) {
	t.Helper()
	s, _ = utf.Decode([]byte(s))
	if l, e, _ := token.Tokens(s); e == api.OK {
		check(t, l)
	}
}

// brief tells anything, cut where it is too long to be read.
func brief(x any) string {
	s := fmt.Sprintf("%+v", x)
	return s[:min(len(s), 500)]
}

func start(name string, attrs ...api.Attr) token.Token {
	return token.Token{Kind: token.Start, Name: name, Attrs: attrs}
}

func end(name string) token.Token  { return token.Token{Kind: token.End, Name: name} }
func text(data string) token.Token { return token.Token{Kind: token.Text, Data: data} }
