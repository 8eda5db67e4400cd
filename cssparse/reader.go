package cssparse

import (
	"strings"

	"selvedge/csstok"
)

// reader goes through tokens; rest are those that it has not taken yet.
type reader struct {
	rest []csstok.Token
}

// next tells the token that stands here; behind the end one of no kind.
func (r *reader) next() csstok.Token {
	if len(r.rest) == 0 {
		return csstok.Token{}
	}
	return r.rest[0]
}

// passWhite passes over white tokens (a comment may part them), and tells whether there were any.
func (r *reader) passWhite() bool {
	before := len(r.rest)
	for isWhite(r.next()) {
		r.rest = r.rest[1:]
	}
	return len(r.rest) < before
}

// took passes over a token, if it is that one, and tells whether it did.
func (r *reader) took(kind uint8, value string) bool {
	if !is(r.next(), kind, value) {
		return false
	}
	r.rest = r.rest[1:]
	return true
}

// take takes a token of a kind, if it stands here.
func (r *reader) take(kind uint8) (csstok.Token, bool) {
	t := r.next()
	if t.Kind != kind {
		return csstok.Token{}, false
	}
	r.rest = r.rest[1:]
	return t, true
}

// small tells a name in small letters, those of A to Z alone.
func small(name string) string {
	return strings.Map(func(r rune) rune {
		if r >= 'A' && r <= 'Z' {
			return r - 'A' + 'a'
		}
		return r
	}, name)
}
