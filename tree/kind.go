package tree

import "sync"

// Kinds of elements.
const (
	block     uint8 = 1
	paragraph uint8 = 2
	item      uint8 = 3
	heading   uint8 = 4
	inline    uint8 = 5
	anchor    uint8 = 6
	void      uint8 = 7
	voidBlock uint8 = 8
)

// Kind tells the kind of an element of the subset, 0 of any other name.
func Kind(name string) uint8 {
	switch name {
	case "div", "ul", "ol", "section", "article", "header", "footer", "main", "nav", "aside", "blockquote", "figure":
		return block
	case "p":
		return paragraph
	case "li":
		return item
	case "h1", "h2", "h3", "h4", "h5", "h6":
		return heading
	case "span", "b", "i", "em", "strong", "u", "s", "small", "code", "bdi", "bdo", "abbr", "cite", "q", "sub", "sup", "mark":
		return inline
	case "a":
		return anchor
	case "br", "wbr":
		return void
	case "hr":
		return voidBlock
	}
	return 0
}

var (
	once  sync.Once
	kinds map[string]uint8
)

// LookUp tells what Kind tells, by a map that is made when it is asked first.
func LookUp(name string) uint8 {
	once.Do(func() { kinds = kindsByName() })
	return kinds[name]
}

func kindsByName() map[string]uint8 {
	return map[string]uint8{
		"div": block, "ul": block, "ol": block, "section": block, "article": block, "header": block,
		"footer": block, "main": block, "nav": block, "aside": block, "blockquote": block, "figure": block,
		"p":  paragraph,
		"li": item,
		"h1": heading, "h2": heading, "h3": heading, "h4": heading, "h5": heading, "h6": heading,
		"span": inline, "b": inline, "i": inline, "em": inline, "strong": inline, "u": inline,
		"s": inline, "small": inline, "code": inline, "bdi": inline, "bdo": inline, "abbr": inline,
		"cite": inline, "q": inline, "sub": inline, "sup": inline, "mark": inline,
		"a":  anchor,
		"br": void, "wbr": void,
		"hr": voidBlock,
	}
}

// isVoid: has an element of this kind no content?
func isVoid(kind uint8) bool { return kind == void || kind == voidBlock }

// endsParagraph: may an element of this kind not stand below a p?
func endsParagraph(kind uint8) bool {
	switch kind {
	case block, paragraph, item, heading, voidBlock:
		return true
	}
	return false
}
