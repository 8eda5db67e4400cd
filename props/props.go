// Package props is layer 1: what is known of a character. See shared/doc/01-props.md.
package props

// couple is two characters that belong together, the one that opens ahead.
type couple struct {
	open  rune
	close rune
}

// brackets pair, and mirror each other.
func brackets() [23]couple {
	return [23]couple{
		{0x0028, 0x0029}, {0x005B, 0x005D}, {0x007B, 0x007D}, {0x2045, 0x2046}, {0x207D, 0x207E}, {0x208D, 0x208E},
		{0x2308, 0x2309}, {0x230A, 0x230B}, {0x2329, 0x232A}, {0x27E6, 0x27E7}, {0x27E8, 0x27E9}, {0x27EA, 0x27EB},
		{0x27EC, 0x27ED}, {0x27EE, 0x27EF}, {0x3008, 0x3009}, {0x300A, 0x300B}, {0x300C, 0x300D}, {0x300E, 0x300F},
		{0x3010, 0x3011}, {0x3014, 0x3015}, {0x3016, 0x3017}, {0x3018, 0x3019}, {0x301A, 0x301B},
	}
}

// mirrors mirror each other, and are no brackets.
func mirrors() [7]couple {
	return [7]couple{
		{0x003C, 0x003E}, {0x00AB, 0x00BB}, {0x2039, 0x203A}, {0x2208, 0x220B}, {0x2264, 0x2265}, {0x226A, 0x226B},
		{0x2282, 0x2283},
	}
}

// other tells the one of a couple that a character is not; whether it is one of the two.
func (c couple) other(r rune) (rune, bool) {
	switch r {
	case c.open:
		return c.close, true
	case c.close:
		return c.open, true
	}
	return r, false
}

// Bracket tells the closing bracket of a bracket; whether it is an opening one; whether it is one.
func Bracket(r rune) (rune, bool, bool) {
	for _, c := range brackets() {
		if r == c.open || r == c.close {
			return canonical(c.close), r == c.open, true
		}
	}
	return 0, false, false
}

// canonical tells the closing bracket as which a closing bracket counts: equal answers are how pairs are found.
func canonical(r rune) rune {
	if r == 0x232A {
		return 0x3009
	}
	return r
}

// Mirror tells what mirrors a character.
func Mirror(r rune) (rune, bool) {
	for _, c := range brackets() {
		if m, ok := c.other(r); ok {
			return m, true
		}
	}
	for _, c := range mirrors() {
		if m, ok := c.other(r); ok {
			return m, true
		}
	}
	return r, false
}

// Space: is it white space of HTML?
func Space(r rune) bool {
	switch r {
	case '\t', '\n', '\f', '\r', ' ':
		return true
	}
	return false
}
