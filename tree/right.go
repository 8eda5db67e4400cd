package tree

import (
	"slices"
	"strings"
	"unicode/utf8"

	"selvedge/api"
)

const nameSigns = "abcdefghijklmnopqrstuvwxyz0123456789-_"

// Right tells whether a tree is one of the subset.
func Right(t api.Tree) api.Errno {
	if len(t) == 0 || len(t) > api.MaxNodes || !isRoot(&t[0]) || !haveTheirKids(t) || !standRight(t) {
		return api.ErrTree
	}
	return api.OK
}

func isRoot(n *api.Node) bool {
	return n.Kind == api.Document && n.Up == -1 && n.Name == "" && len(n.Attrs) == 0 && n.Data == ""
}

// haveTheirKids tells whether the Kids of all nodes are just the nodes whose Up they are, rising, and no text is right behind another. Rows of nothing but such nodes leave none out, if they are all together as long as there are nodes.
func haveTheirKids(t api.Tree) bool {
	count := 0
	for i := range t {
		if !areKids(t, i) {
			return false
		}
		count += len(t[i].Kids)
	}
	return count == len(t)-1
}

func areKids(t api.Tree, i int) bool {
	last := i
	for _, k := range t[i].Kids {
		if k <= last || k >= len(t) || t[k].Up != i {
			return false
		}
		if t[last].Kind == api.Text && t[k].Kind == api.Text { // behind one, or below one, which may not be either
			return false
		}
		last = k
	}
	return true
}

// standRight tells whether each node behind the document may stand where it does. A node that is not open when another one of which it is the Up begins is a text, void, or out of order.
func standRight(t api.Tree) bool {
	open := make(stack, 1, api.MaxDepth+1)
	for i := 1; i < len(t); i++ {
		n := &t[i]
		if !open.downTo(n.Up) {
			return false
		}
		switch n.Kind {
		case api.Text:
			if !isText(n) {
				return false
			}
		case api.Element:
			kind := Kind(n.Name)
			if kind == 0 || !isElement(n) || !open.takes(kind) || len(open) > api.MaxDepth {
				return false
			}
			if !isVoid(kind) {
				open.push(opened{node: i, name: n.Name, kind: kind})
			}
		default:
			return false
		}
	}
	return true
}

func isText(n *api.Node) bool {
	return n.Name == "" && len(n.Attrs) == 0 && n.Data != "" && isPlain(n.Data)
}

func isElement(n *api.Node) bool {
	if n.Data != "" || len(n.Attrs) > api.MaxAttrs {
		return false
	}
	for i, a := range n.Attrs {
		twice := slices.ContainsFunc(n.Attrs[:i], func(b api.Attr) bool { return b.Name == a.Name })
		if twice || !isAttrName(a.Name) || !isPlain(a.Value) {
			return false
		}
	}
	return true
}

func isAttrName(s string) bool {
	return s != "" && strings.TrimLeft(s, nameSigns) == ""
}

// isPlain tells whether a text is well-formed, without the character 0.
func isPlain(s string) bool {
	return utf8.ValidString(s) && strings.IndexByte(s, 0) < 0
}
