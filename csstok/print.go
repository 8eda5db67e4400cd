package csstok

import (
	"strconv"
	"strings"

	"selvedge/utf"
)

// Print tells tokens as a text.
func Print(l []Token) string {
	var p printer
	for _, t := range l {
		if wouldJoin(p.last, t) {
			p.WriteString("/**/")
		}
		p.token(t)
		p.last = t
	}
	return p.String()
}

// printer writes tokens; last is the one ahead.
type printer struct {
	strings.Builder
	last Token
}

// wouldJoin tells whether two tokens could be read as others if nothing stood between them.
func wouldJoin(first, second Token) bool {
	switch first.Kind {
	case White:
		return second.Kind == White
	case Ident:
		return joinsAhead(second.Kind) || second.Kind == Sign && second.Value == "("
	case At, Hash, Number, Percent, Measure, Delim:
		return joinsAhead(second.Kind)
	}
	return false
}

// joinsAhead tells whether a token of a kind may become part of one ahead of it.
func joinsAhead(kind uint8) bool {
	switch kind {
	case Ident, Func, Number, Percent, Measure, Delim, Close:
		return true
	}
	return false
}

func (p *printer) token(t Token) {
	switch t.Kind {
	case White:
		p.white()
	case Ident:
		p.name(t.Value, misreadFirst)
	case Func:
		p.name(t.Value, misreadFirst)
		p.WriteByte('(')
	case At:
		p.WriteByte('@')
		p.name(t.Value, misreadFirst)
	case Hash:
		p.hash(t)
	case Text:
		p.quoted(t.Value)
		p.WriteByte('"')
	case Bad:
		p.quoted(t.Value)
	case Number, Sign, Delim:
		p.WriteString(t.Value)
	case Percent:
		p.WriteString(t.Value)
		p.WriteByte('%')
	case Measure:
		p.WriteString(t.Value)
		p.name(t.Unit, misreadInUnit)
	case Open:
		p.WriteString(openSign)
	case Close:
		p.WriteString(closeSign)
	}
}

// white writes a line end where only that leaves what stands ahead as it is.
func (p *printer) white() {
	if p.last.Kind == Bad || p.last.Kind == Delim && p.last.Value == `\` {
		p.WriteByte('\n')
		return
	}
	p.WriteByte(' ')
}

func (p *printer) hash(t Token) {
	p.WriteByte('#')
	if t.ID {
		p.name(t.Value, misreadFirst)
		return
	}
	p.name(t.Value, misreadNever)
}

// name writes a name. What none may have is escaped, and what would be misread where it stands.
func (p *printer) name(s string, misread func(name []rune, i int) bool) {
	l := utf.Runes(s)
	for i, r := range l {
		if !isOfName(r) || misread(l, i) {
			p.escape(r)
		} else {
			p.WriteRune(r)
		}
	}
}

// misreadNever is asked of a hash that is no name: any character of names may begin it.
func misreadNever(name []rune, i int) bool { return false }

// misreadFirst tells whether, because of the character at i, no name would begin where this one stands.
func misreadFirst(name []rune, i int) bool {
	if name[i] == '-' {
		return len(name) == 1
	}
	return isDigit(name[i]) && (i == 0 || i == 1 && name[0] == '-')
}

// misreadInUnit tells the same of a unit, the beginning of which may also look like its number's power.
func misreadInUnit(unit []rune, i int) bool {
	if i == 0 && (unit[0] == 'e' || unit[0] == 'E') {
		behind := unit[1:]
		if len(behind) > 0 && behind[0] == '-' {
			behind = behind[1:]
		}
		return len(behind) > 0 && isDigit(behind[0])
	}
	return misreadFirst(unit, i)
}

// quoted writes a text behind its first quote.
func (p *printer) quoted(s string) {
	p.WriteByte('"')
	for _, r := range utf.Runes(s) {
		switch r {
		case '\n', '\f', '\r':
			p.escape(r)
		case '"', '\\':
			p.WriteByte('\\')
			fallthrough
		default:
			p.WriteRune(r)
		}
	}
}

// escape writes a character by its number.
func (p *printer) escape(r rune) {
	p.WriteByte('\\')
	p.WriteString(strings.ToUpper(strconv.FormatInt(int64(r), 16)))
	p.WriteByte(' ')
}
