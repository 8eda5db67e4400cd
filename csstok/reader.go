package csstok

import (
	"unicode/utf8"

	"selvedge/utf"
)

const (
	none      rune = -1 // what stands behind the end
	hexDigits      = 6  // the most that an escape has
)

// reader goes through a text; rest are the characters that it has not taken yet.
type reader struct {
	rest []rune
}

// at tells the character that stands n behind the next one.
func (r *reader) at(n int) rune {
	if n >= len(r.rest) {
		return none
	}
	return r.rest[n]
}

// pass passes over n characters, or as many as there are.
func (r *reader) pass(n int) { r.rest = r.rest[min(n, len(r.rest)):] }

// take takes n characters as they stand.
func (r *reader) take(n int) string {
	taken := utf.String(r.rest[:n])
	r.pass(n)
	return taken
}

// took passes over a sign, if it stands here, and tells whether it did.
func (r *reader) took(sign string) bool {
	for i, c := range sign { // of one byte each
		if r.at(i) != c {
			return false
		}
	}
	r.pass(len(sign))
	return true
}

func (r *reader) passComments() {
	for r.took("/*") {
		for len(r.rest) > 0 && !r.took("*/") {
			r.pass(1)
		}
	}
}

// escapeStands tells whether an escape stands n behind the next character.
func (r *reader) escapeStands(n int) bool { return r.at(n) == '\\' && r.at(n+1) != '\n' }

// nameBegins tells whether a name begins n behind the next character.
func (r *reader) nameBegins(n int) bool {
	if r.at(n) != '-' {
		return beginsName(r.at(n)) || r.escapeStands(n)
	}
	return r.at(n+1) == '-' || beginsName(r.at(n+1)) || r.escapeStands(n+1)
}

func (r *reader) numberBegins() bool {
	n := r.behindSign(0)
	if r.at(n) == '.' {
		n++
	}
	return isDigit(r.at(n))
}

// takeName takes a name: what escapes stand for becomes part of it.
func (r *reader) takeName() string {
	var l []rune
	for {
		switch {
		case isOfName(r.at(0)):
			l = append(l, r.at(0))
			r.pass(1)
		case r.escapeStands(0):
			l = append(l, r.takeEscape())
		default:
			return utf.String(l)
		}
	}
}

// takeEscape takes an escape, and tells the character that it stands for.
func (r *reader) takeEscape() rune {
	r.pass(len(`\`))
	var c rune
	n := 0
	for ; n < hexDigits; n++ {
		digit, ok := hexDigit(r.at(n))
		if !ok {
			break
		}
		c = c<<4 | digit
	}
	if n == 0 {
		c = r.at(0)
		n = 1
	} else if isWhite(r.at(n)) {
		n++
	}
	r.pass(n)
	if c == 0 || !utf8.ValidRune(c) { // what stands behind the end isn't valid either
		return utf8.RuneError
	}
	return c
}

func (r *reader) takeNumber() string {
	n := r.behindDigits(r.behindSign(0))
	if r.at(n) == '.' && isDigit(r.at(n+1)) {
		n = r.behindDigits(n + 1)
	}
	if r.at(n) == 'e' || r.at(n) == 'E' {
		if power := r.behindSign(n + 1); isDigit(r.at(power)) {
			n = r.behindDigits(power)
		}
	}
	return r.take(n)
}

func (r *reader) behindSign(n int) int {
	if r.at(n) == '+' || r.at(n) == '-' {
		n++
	}
	return n
}

func (r *reader) behindDigits(n int) int {
	for isDigit(r.at(n)) {
		n++
	}
	return n
}

// textUpTo takes a text's characters up to its quote, a line end or the end: whichever comes first stays.
func (r *reader) textUpTo(quote rune) string {
	var l []rune
	for {
		switch c := r.at(0); {
		case c == quote, c == '\n', c == none:
			return utf.String(l)
		case c != '\\':
			l = append(l, c)
			r.pass(1)
		case r.at(1) == '\n', r.at(1) == none: // the text goes on in the next line, or ends
			r.pass(2)
		default:
			l = append(l, r.takeEscape())
		}
	}
}
