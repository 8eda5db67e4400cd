package cssparse

import "selvedge/csstok"

// readDeclarations tells the declarations out of tokens; what is none is left out.
func readDeclarations(l []csstok.Token) []Decl {
	var list []Decl
	for one := range stretches(l, isBetweenDeclarations, isSemicolon) {
		if d, ok := readDeclaration(one); ok {
			list = append(list, d)
		}
	}
	return list
}

// readDeclaration tells the declaration that tokens are, if they are one.
func readDeclaration(l []csstok.Token) (Decl, bool) {
	r := reader{rest: l}
	name, ok := r.take(csstok.Ident)
	if !ok {
		return Decl{}, false
	}
	r.passWhite()
	if !r.took(csstok.Sign, ":") {
		return Decl{}, false
	}
	r.passWhite()
	value, important := cutImportant(trimEnd(r.rest))
	if !isValue(value) {
		return Decl{}, false
	}
	return Decl{Name: small(name.Value), Value: csstok.Print(value), Important: important}, true
}

// trimEnd tells tokens without the white ones at their end.
func trimEnd(l []csstok.Token) []csstok.Token {
	for len(l) > 0 && isWhite(l[len(l)-1]) {
		l = l[:len(l)-1]
	}
	return l
}

// cutImportant tells a value without the words at its end that make it important, and whether they were there.
func cutImportant(l []csstok.Token) ([]csstok.Token, bool) {
	last := len(l) - 1
	if last < 0 || l[last].Kind != csstok.Ident || small(l[last].Value) != "important" {
		return l, false
	}
	ahead := trimEnd(l[:last])
	last = len(ahead) - 1
	if last < 0 || !is(ahead[last], csstok.Delim, "!") {
		return l, false
	}
	return trimEnd(ahead[:last]), true
}

// isValue tells whether tokens may be a declaration's value.
func isValue(l []csstok.Token) bool {
	for _, t := range l {
		if t.Kind == csstok.Bad {
			return false
		}
	}
	for p := range pieces(l) {
		if isCloser(p.tokens[0]) { // within a piece it may stand, whether it closes one or not
			return false
		}
	}
	return len(l) > 0
}
