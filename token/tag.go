package token

import (
	"slices"
	"strings"

	"selvedge/api"
	"selvedge/charref"
)

const (
	doubleQuote = "\""
	singleQuote = "'"
)

// start reads a start tag.
func (r *reader) start() (Token, api.Errno) {
	r.take(len("<"))
	return r.tag(Start)
}

// end reads an end tag. What it may not have is known when all of it is read: what is wrong within comes first.
func (r *reader) end() (Token, api.Errno) {
	r.take(len("</"))
	if r.rest == "" || !isLetter(r.rest[0]) {
		return Token{}, api.ErrTag
	}
	t, e := r.tag(End)
	if e == api.OK && (t.Self || len(t.Attrs) > 0) {
		return Token{}, api.ErrTag
	}
	return t, e
}

// tag reads a tag from its name on.
func (r *reader) tag(kind uint8) (Token, api.Errno) {
	t := Token{Kind: kind, Name: small(r.takeUpTo(blanks + "/>"))}
	if !isWord(t.Name, "") {
		return Token{}, api.ErrTag
	}
reading:
	for {
		r.leaveOutBlanks()
		switch {
		case r.took(">"):
			break reading
		case r.took("/>"):
			t.Self = true
			break reading
		case r.rest == "" || r.rest[0] == '/':
			return Token{}, api.ErrTag
		}
		a, e := r.attribute()
		if e == api.OK {
			e = mayJoin(t.Attrs, a)
		}
		if e != api.OK {
			return Token{}, e
		}
		t.Attrs = append(t.Attrs, a)
	}
	return t, api.OK
}

// mayJoin tells what is wrong with one attribute more.
func mayJoin(attrs []api.Attr, a api.Attr) api.Errno {
	switch {
	case slices.ContainsFunc(attrs, func(b api.Attr) bool { return b.Name == a.Name }):
		return api.ErrAttr
	case len(attrs) >= api.MaxAttrs:
		return api.ErrLimit
	}
	return api.OK
}

// attribute reads an attribute, and the blanks behind its name.
func (r *reader) attribute() (api.Attr, api.Errno) {
	name := small(r.takeUpTo(blanks + "=/>"))
	if name == "" || !isWord(name, "-_") {
		return api.Attr{}, api.ErrAttr
	}
	r.leaveOutBlanks()
	if !r.took("=") {
		return api.Attr{Name: name}, api.OK
	}
	r.leaveOutBlanks()
	value, ok := r.value()
	if !ok {
		return api.Attr{}, api.ErrAttr
	}
	return api.Attr{Name: name, Value: charref.Decode(value, true)}, api.OK
}

// value reads the bytes of an attribute's value, and tells whether they may be one.
func (r *reader) value() (string, bool) {
	switch {
	case r.took(doubleQuote):
		return r.quoted(doubleQuote)
	case r.took(singleQuote):
		return r.quoted(singleQuote)
	}
	value := r.takeUpTo(blanks + ">")
	return value, value != "" && !strings.ContainsAny(value, "\"'<=`")
}

// quoted reads a value up to its closing quote, and tells whether there is one.
func (r *reader) quoted(quote string) (string, bool) {
	value, rest, closed := strings.Cut(r.rest, quote)
	r.rest = rest
	return value, closed
}

// isWord tells whether a name has letters, digits and some more bytes alone.
func isWord(name, more string) bool {
	for i := range len(name) {
		b := name[i]
		if !isLetter(b) && !isDigit(b) && strings.IndexByte(more, b) < 0 {
			return false
		}
	}
	return true
}
