package tree

import "slices"

// opened is an open node; name and kind are empty of the document.
type opened struct {
	node int
	name string
	kind uint8
}

// isWall tells whether this element parts an li below it from one above it.
func (o opened) isWall() bool {
	return o.kind == heading || o.kind == block && o.name != "div"
}

// stack is the open nodes, the document at the bottom.
type stack []opened

func (s stack) top() opened { return s[len(s)-1] }

// has tells whether an element of a kind is open; an li counts only as far as the first wall.
func (s stack) has(kind uint8) bool {
down:
	for i := len(s) - 1; i > 0; i-- {
		switch {
		case s[i].kind == kind:
			return true
		case kind == item && s[i].isWall():
			break down
		}
	}
	return false
}

// takes tells whether an element of a kind may begin within those that are open.
func (s stack) takes(kind uint8) bool {
	switch {
	case endsParagraph(kind) && s.has(paragraph):
		return false
	case kind == item || kind == anchor:
		return !s.has(kind)
	case kind == heading:
		return s.top().kind != heading
	}
	return true
}

func (s *stack) push(o opened) { *s = append(*s, o) }

func (s *stack) pop() { *s = (*s)[:len(*s)-1] }

// closeAll closes the current element as long as it is of one of the kinds.
func (s *stack) closeAll(list ...uint8) {
	for slices.Contains(list, s.top().kind) {
		s.pop()
	}
}

// closeOne closes the current element, if it is of the kind.
func (s *stack) closeOne(kind uint8) {
	if s.top().kind == kind {
		s.pop()
	}
}

// downTo closes all above a node, and tells whether it is open.
func (s *stack) downTo(node int) bool {
	for len(*s) > 0 && s.top().node != node {
		s.pop()
	}
	return len(*s) > 0
}
