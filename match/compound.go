package match

import (
	"selvedge/api"
	"selvedge/cssparse"
	"selvedge/props"
)

// isFor tells whether a compound is for a node.
func isFor(c cssparse.Compound, n *api.Node) bool {
	if n.Kind != api.Element || c.Type != "" && c.Type != n.Name {
		return false
	}
	id, hasID := attribute(n, "id")
	classes, _ := attribute(n, "class") // without it: nothing, in which no word stands
	return every(c.IDs, func(x string) bool { return hasID && id == x }) &&
		every(c.Classes, func(x string) bool { return hasWord(classes, x) }) &&
		every(c.Tests, func(x cssparse.Test) bool { return passes(n, x) })
}

// passes tells whether a node has a test's attribute, with its value, if that counts.
func passes(n *api.Node, x cssparse.Test) bool {
	value, has := attribute(n, x.Name)
	return has && (!x.Has || value == x.Value)
}

// attribute tells a node's attribute, and whether it has one of that name.
func attribute(n *api.Node, name string) (string, bool) {
	for _, a := range n.Attrs {
		if a.Name == name {
			return a.Value, true
		}
	}
	return "", false
}

// hasWord tells whether a word stands in a text. Its bytes are asked one by one: white space is of one byte each, and no other character has such a one in it.
func hasWord(text, word string) bool {
	from := 0
	for i := 0; i <= len(text); i++ {
		if i < len(text) && !props.Space(rune(text[i])) {
			continue
		}
		if i > from && text[from:i] == word {
			return true
		}
		from = i + 1
	}
	return false
}
