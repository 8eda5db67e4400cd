package cssparse

import (
	"iter"

	"selvedge/csstok"
)

// piece is a token, or what is opened by one: all up to what closes it.
type piece struct {
	at     int // where it begins in its list
	tokens []csstok.Token
	closed bool // of what is opened: does it end with the sign that closes it?
}

// within tells the tokens between those that open and close a piece.
func (p piece) within() []csstok.Token {
	if p.closed {
		return p.tokens[1 : len(p.tokens)-1]
	}
	return p.tokens[1:]
}

// pieces goes over the pieces of a list.
func pieces(l []csstok.Token) iter.Seq[piece] {
	return func(yield func(piece) bool) {
		for at := 0; at < len(l); {
			n, closed := firstPiece(l[at:])
			if !yield(piece{at: at, tokens: l[at : at+n], closed: closed}) {
				return
			}
			at += n
		}
	}
}

// firstPiece tells how many tokens the piece has with which a list begins, and whether it is closed.
func firstPiece(l []csstok.Token) (int, bool) {
	var awaited []string // the signs that close what is open, that of the innermost one last
	for i, t := range l {
		innermost := len(awaited) - 1
		if closer := closerOf(t); closer != "" {
			awaited = append(awaited, closer)
		} else if innermost >= 0 && is(t, csstok.Sign, awaited[innermost]) {
			awaited = awaited[:innermost]
		}
		if len(awaited) == 0 {
			return i + 1, i > 0
		}
	}
	return len(l), false
}

// closerOf tells the sign that closes what a token opens, or nothing.
func closerOf(t csstok.Token) string {
	switch {
	case is(t, csstok.Sign, "{"):
		return "}"
	case is(t, csstok.Sign, "["):
		return "]"
	case is(t, csstok.Sign, "("), t.Kind == csstok.Func:
		return ")"
	}
	return ""
}

// isCloser tells whether a token is a sign that closes something, where something is open.
func isCloser(t csstok.Token) bool {
	return is(t, csstok.Sign, "}") || is(t, csstok.Sign, ")") || is(t, csstok.Sign, "]")
}

// is tells whether a token is that one.
func is(t csstok.Token, kind uint8, value string) bool { return t.Kind == kind && t.Value == value }

func isBlock(t csstok.Token) bool { return is(t, csstok.Sign, "{") }

func isSemicolon(t csstok.Token) bool { return is(t, csstok.Sign, ";") }

func isWhite(t csstok.Token) bool { return t.Kind == csstok.White }

// isBetweenRules tells whether a token may stand between rules and mean nothing.
func isBetweenRules(t csstok.Token) bool {
	return t.Kind == csstok.White || t.Kind == csstok.Open || t.Kind == csstok.Close
}

func isBetweenDeclarations(t csstok.Token) bool { return isWhite(t) || isSemicolon(t) }

// blocks goes over a sheet's preludes, each with what stands within its block.
func blocks(l []csstok.Token) iter.Seq2[[]csstok.Token, []csstok.Token] {
	return func(yield func(prelude, block []csstok.Token) bool) {
		for prelude, end := range stretches(l, isBetweenRules, isBlock) {
			if len(end.tokens) > 0 && !yield(prelude, end.within()) {
				return
			}
		}
	}
}

// stretches goes over what is no at-rule: pieces up to one that ends them, and that one; behind the last ones there may be none. What passes is passed over where no stretch has begun.
func stretches(l []csstok.Token, passes, ends func(csstok.Token) bool) iter.Seq2[[]csstok.Token, piece] {
	return func(yield func([]csstok.Token, piece) bool) {
		begun, atRule := false, false
		from := 0
		for p := range pieces(l) {
			first := p.tokens[0]
			if !begun {
				if passes(first) {
					continue
				}
				begun, atRule, from = true, first.Kind == csstok.At, p.at
			}
			switch {
			case atRule:
				begun = !isSemicolon(first) && !isBlock(first)
			case ends(first):
				begun = false
				if !yield(l[from:p.at], p) {
					return
				}
			}
		}
		if begun && !atRule {
			yield(l[from:], piece{})
		}
	}
}
