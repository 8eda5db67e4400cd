package match

import (
	"selvedge/api"
	"selvedge/cssparse"
)

// none stands where there is no node.
const none = -1

// lead tells the nodes to which a join leads from some.
//
// These and those fall by number: they stand on the way up from one node, or each as many elements ahead of where that way goes. So what is above the first one is all that is above any, and between a node and its parent, where the element ahead is looked for, no other one of them stands: a join takes no more steps than there are nodes.
func lead(t api.Tree, from []int, join uint8) []int {
	switch join {
	case cssparse.Descendant:
		return above(t, from[0])
	case cssparse.Child:
		return told(from, func(i int) int { return parent(t, i) })
	case cssparse.Next:
		return told(from, func(i int) int { return elementAhead(t, i) })
	}
	return nil
}

// told tells what is told of each of some nodes, where there is something.
func told(nodes []int, tell func(int) int) []int {
	var out []int
	for _, i := range nodes {
		if n := tell(i); n != none {
			out = append(out, n)
		}
	}
	return out
}

// above tells a node's parent, its parent, and so on.
func above(t api.Tree, i int) []int {
	var out []int
	for up := parent(t, i); up != none; up = parent(t, up) {
		out = append(out, up)
	}
	return out
}

func parent(t api.Tree, i int) int {
	if up := t[i].Up; up >= 0 && up < i {
		return up
	}
	return none
}

// elementAhead tells the element ahead of a node: it stands behind their parent.
func elementAhead(t api.Tree, i int) int {
	up := parent(t, i)
	for ahead := i - 1; ahead > up; ahead-- {
		if t[ahead].Kind == api.Element && parent(t, ahead) == up {
			return ahead
		}
	}
	return none
}
