package cssparse

import "selvedge/csstok"

// readSelectors tells the row of selectors that tokens are, if they are one.
func readSelectors(l []csstok.Token) ([]Selector, bool) {
	var row []Selector
	r := reader{rest: l}
	for {
		var s Selector
		for join, more := First, true; more; join, more = r.takeJoin() {
			r.passWhite()
			c, ok := r.takeCompound(join)
			if !ok {
				goto wrong
			}
			s = append(s, c)
		}
		row = append(row, s)
		if len(r.rest) == 0 {
			return row, true
		}
		if !r.took(csstok.Sign, ",") {
			goto wrong
		}
	}
wrong:
	return nil, false
}

// takeJoin takes what joins the next compound to the one ahead, and tells whether there is to be one.
func (r *reader) takeJoin() (uint8, bool) {
	white := r.passWhite()
	switch {
	case r.took(csstok.Delim, ">"):
		return Child, true
	case r.took(csstok.Delim, "+"):
		return Next, true
	}
	if white && len(r.rest) > 0 && !is(r.next(), csstok.Sign, ",") {
		return Descendant, true
	}
	return First, false
}

// takeCompound takes the parts of a compound that stand here, if there are any and none is wrong.
func (r *reader) takeCompound(join uint8) (Compound, bool) {
	before := len(r.rest)
	c := Compound{Join: join}
	if name, ok := r.take(csstok.Ident); ok {
		c.Type = small(name.Value)
	} else {
		r.took(csstok.Delim, "*") // which is no type, but a compound
	}
	for {
		switch t := r.next(); {
		case t.Kind == csstok.Hash && t.ID:
			r.take(csstok.Hash)
			c.IDs = append(c.IDs, t.Value)
		case r.took(csstok.Delim, "."):
			class, ok := r.take(csstok.Ident)
			if !ok {
				return Compound{}, false
			}
			c.Classes = append(c.Classes, class.Value)
		case r.took(csstok.Sign, "["):
			test, ok := r.takeTest()
			if !ok {
				return Compound{}, false
			}
			c.Tests = append(c.Tests, test)
		default:
			return c, len(r.rest) < before
		}
	}
}

// takeTest takes the rest of a test of an attribute, behind its [.
func (r *reader) takeTest() (Test, bool) {
	r.passWhite()
	name, ok := r.take(csstok.Ident)
	if !ok {
		return Test{}, false
	}
	t := Test{Name: small(name.Value)}
	r.passWhite()
	if r.took(csstok.Delim, "=") {
		r.passWhite()
		value, ok := r.take(csstok.Ident)
		if !ok {
			value, ok = r.take(csstok.Text)
		}
		if !ok {
			return Test{}, false
		}
		t.Value, t.Has = value.Value, true
		r.passWhite()
	}
	if !r.took(csstok.Sign, "]") {
		return Test{}, false
	}
	return t, true
}
