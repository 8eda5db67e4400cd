package serial

import (
	"fmt"
	"math/rand"
	"slices"
	"strings"
	"testing"
	"unsafe"

	"selvedge/api"
	"selvedge/tree"
)

// The chapter's words on what is escaped: a second account, by the library's replacers of bytes.
var (
	textSigns  = strings.NewReplacer("&", "&amp;", "<", "&lt;", ">", "&gt;", "\xC2\xA0", "&nbsp;", "\x0D", "&#13;")
	valueSigns = strings.NewReplacer("&", "&amp;", "\"", "&quot;", "\xC2\xA0", "&nbsp;", "\x0D", "&#13;")
)

// want tells a tree's document by a second account: from the last node to the first, by what is above each, not by what is below.
func want(u api.Tree) string {
	within := make([]string, len(u))
	for i := len(u) - 1; i > 0; i-- {
		n := u[i]
		whole := textSigns.Replace(n.Data)
		if n.Kind == api.Element {
			whole = "<" + n.Name
			for _, a := range n.Attrs {
				whole += fmt.Sprintf(` %s="%s"`, a.Name, valueSigns.Replace(a.Value))
			}
			whole += ">" + within[i]
			if !slices.Contains([]string{"br", "wbr", "hr"}, n.Name) {
				whole += "</" + n.Name + ">"
			}
		}
		within[n.Up] = whole + within[n.Up]
	}
	return within[0]
}

// branch is an element or a text (without a name), with what stands below it.
type branch struct {
	name  string
	attrs []api.Attr
	data  string
	kids  []branch
}

func elem(name string, kids ...branch) branch { return branch{name: name, kids: kids} }

func words(data string) branch { return branch{data: data} }

// with tells an element with attributes: names and values by turns.
func (b branch) with(list ...string) branch {
	for i := 0; i < len(list); i += 2 {
		b.attrs = append(b.attrs, api.Attr{Name: list[i], Value: list[i+1]})
	}
	return b
}

// grow makes a tree, right or not.
func grow(list ...branch) api.Tree {
	u := api.Tree{{Up: -1}}
	var join func(up int, list []branch)
	join = func(up int, list []branch) {
		for _, b := range list {
			at := len(u)
			n := api.Node{Kind: api.Element, Name: b.name, Attrs: b.attrs, Up: up}
			if b.name == "" {
				n = api.Node{Kind: api.Text, Data: b.data, Up: up}
			}
			u[up].Kids = append(u[up].Kids, at)
			u = append(u, n)
			join(at, b.kids)
		}
	}
	join(0, list)
	return u
}

// nest tells elements within one another, the last branch in the innermost.
func nest(b branch, names ...string) branch {
	for _, name := range slices.Backward(names) {
		b = elem(name, b)
	}
	return b
}

// elements are those of the subset, as the chapter of trees lists them.
func elements() []string {
	return strings.Fields("div ul ol section article header footer main nav aside blockquote figure p li h1 h2 h3 h4 h5 h6 span b i em strong u s small code bdi bdo abbr cite q sub sup mark a br wbr hr")
}

// same tells whether two trees are the same; a nil list and an empty one are.
func same(u, v api.Tree) bool {
	return slices.EqualFunc(u, v, func(a, b api.Node) bool {
		return a.Kind == b.Kind && a.Name == b.Name && slices.Equal(a.Attrs, b.Attrs) && a.Data == b.Data && a.Up == b.Up && slices.Equal(a.Kids, b.Kids)
	})
}

// copied tells a tree in memory of its own.
func copied(u api.Tree) api.Tree {
	v := slices.Clone(u)
	for i, n := range v {
		v[i].Attrs, v[i].Kids = slices.Clone(n.Attrs), slices.Clone(n.Kids)
	}
	return v
}

// shares tells whether two texts overlap in memory.
func shares(a, b string) bool {
	x, y := uintptr(unsafe.Pointer(unsafe.StringData(a))), uintptr(unsafe.Pointer(unsafe.StringData(b)))
	return x < y+uintptr(len(b)) && y < x+uintptr(len(a))
}

// brief tells anything, cut where it is too long to be read.
func brief(x any) string {
	s := fmt.Sprintf("%+q", x)
	return s[:min(len(s), 500)]
}

// holdDocument holds Serialize of a right tree against a document.
func holdDocument(t *testing.T, u api.Tree, document string) {
	t.Helper()
	if s, e := Serialize(u); s != document || e != api.OK {
		t.Fatalf("Serialize(%s) = %s, %d, want %s", brief(u), brief(s), e, brief(document))
	}
}

// holdError holds Serialize against an error.
func holdError(t *testing.T, u api.Tree, want api.Errno) {
	t.Helper()
	if s, e := Serialize(u); s != "" || e != want {
		t.Fatalf("Serialize(%s) = %s, %d, want %d", brief(u), brief(s), e, want)
	}
}

// holdRound holds Serialize of a right tree against the second account, and against what is parsed of it.
func holdRound(t *testing.T, u api.Tree) {
	t.Helper()
	s, e := Serialize(u)
	if s != want(u) || e != api.OK {
		t.Fatalf("Serialize(%s) = %s, %d, want %s", brief(u), brief(s), e, brief(want(u)))
	}
	v, e, at := tree.Parse([]byte(s))
	if e != api.OK || at != 0 || !same(u, v) {
		t.Fatalf("%s is parsed as %s, %d at %d, want %s", brief(s), brief(v), e, at, brief(u))
	}
	if again, e := Serialize(v); again != s || e != api.OK {
		t.Fatalf("%s is serialized again as %s, %d", brief(s), brief(again), e)
	}
}

// signs are texts in which much is to be escaped, or looks so.
func signs() []string {
	return []string{
		"&", "<", ">", "\"", "'", "`", "=", "/", "\r", "\n", "\r\n", "\n\r", "\u00A0", "\t", "\f", " ", "a", "\u05D0", "\u00C2", "\u00A1", "\u00E0", "\uFFFD", "\uFEFF", "\u2029", "\x01", "\x7F", "\u0080", "\u0085", "\u009F", "\U0010FFFF",
		"&amp;", "&amp", "&amp;amp;", "&lt;", "&lt", "&nbsp;", "&#13;", "&#0;", "&#x80;", "&quot;", "&copy", "&notin;", "amp;", "lt;", "#13;", "</p>", "<p>", "<b", "<!--", "-->", "<!", "<?", "</", "<!doctype html>", "]]>",
	}
}

// randomText tells some signs, one behind the other; not none.
func randomText(source *rand.Rand) string {
	list := signs()
	s := list[source.Intn(len(list))]
	for range source.Intn(6) {
		s += list[source.Intn(len(list))]
	}
	return s
}

// randomNode tells a node that may stand in some trees.
func randomNode(source *rand.Rand) api.Node {
	if source.Intn(3) == 0 {
		return api.Node{Kind: api.Text, Data: randomText(source)}
	}
	names := elements()
	n := api.Node{Kind: api.Element, Name: names[source.Intn(len(names))]}
	for _, name := range []string{"dir", "class", "a-b", "x_1", "0", "-"} {
		switch source.Intn(8) {
		case 0:
			n.Attrs = append(n.Attrs, api.Attr{Name: name})
		case 1:
			n.Attrs = append(n.Attrs, api.Attr{Name: name, Value: randomText(source)})
		}
	}
	return n
}

// randomTree tells a right tree: node by node, below one that is the last one or above it, those that may not be there left out.
func randomTree(source *rand.Rand) api.Tree {
	u := api.Tree{{Up: -1}}
	for range source.Intn(40) {
		up := len(u) - 1
		for range source.Intn(4) {
			up = max(u[up].Up, 0)
		}
		n := randomNode(source)
		n.Up = up
		kids := u[up].Kids
		u[up].Kids = append(slices.Clone(kids), len(u))
		u = append(u, n)
		if tree.Right(u) != api.OK {
			u = u[:len(u)-1]
			u[up].Kids = kids
		}
	}
	return u
}
