package serial

import (
	"strings"
	"unicode/utf8"
)

const noBreakSpace = 0xA0

// Escape tells s, escaped as a text.
func Escape(s string) string { return escape(s, inText) }

// EscapeAttr tells s, escaped as an attribute's value.
func EscapeAttr(s string) string { return escape(s, inValue) }

// escape tells s with a reference for each character that has one. What stands between them is taken as bytes: what is ill-formed stays as it is.
func escape(s string, reference func(rune) string) string {
	var out strings.Builder
	done := 0
	for i, r := range s {
		if written := reference(r); written != "" {
			out.WriteString(s[done:i])
			out.WriteString(written)
			done = i + utf8.RuneLen(r)
		}
	}
	out.WriteString(s[done:])
	return out.String()
}

// inText tells how a character is written in a text, if not as itself.
func inText(r rune) string {
	switch r {
	case '<':
		return "&lt;"
	case '>':
		return "&gt;"
	}
	return anywhere(r)
}

// inValue tells how a character is written in an attribute's value, if not as itself.
func inValue(r rune) string {
	if r == '"' {
		return "&quot;"
	}
	return anywhere(r)
}

// anywhere tells what is written alike in both. (A 13 as it stands would be read as a line end.)
func anywhere(r rune) string {
	switch r {
	case '&':
		return "&amp;"
	case noBreakSpace:
		return "&nbsp;"
	case '\r':
		return "&#13;"
	}
	return ""
}
