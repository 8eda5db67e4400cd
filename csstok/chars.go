package csstok

import (
	"strings"
	"unicode/utf8"

	"selvedge/utf"
)

// characters tells a text's characters, with line ends made one sign.
func characters(s string) []rune {
	var out []rune
	returned := false // is the character ahead a carriage return?
	for _, r := range utf.Runes(s) {
		pair := returned && r == '\n'
		returned = r == '\r'
		switch {
		case pair: // its line end was told by the carriage return
		case returned || r == '\f':
			out = append(out, '\n')
		case r == 0:
			out = append(out, utf8.RuneError)
		default:
			out = append(out, r)
		}
	}
	return out
}

func isWhite(c rune) bool { return c == '\t' || c == '\n' || c == ' ' }

func isDigit(c rune) bool { return c >= '0' && c <= '9' }

// beginsName tells whether a name may begin with a character as it stands.
func beginsName(c rune) bool {
	return c >= 'a' && c <= 'z' || c >= 'A' && c <= 'Z' || c == '_' || c >= 0x80
}

// isOfName tells whether a character may stand in a name as it is.
func isOfName(c rune) bool { return beginsName(c) || isDigit(c) || c == '-' }

func isSign(c rune) bool { return strings.ContainsRune(signs, c) }

// hexDigit tells the number of a digit to the base 16, and whether it is one.
func hexDigit(c rune) (rune, bool) {
	switch {
	case isDigit(c):
		return c - '0', true
	case c >= 'a' && c <= 'f':
		return c - 'a' + 10, true
	case c >= 'A' && c <= 'F':
		return c - 'A' + 10, true
	}
	return 0, false
}
