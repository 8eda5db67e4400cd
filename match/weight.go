package match

import "selvedge/cssparse"

// weight is how many IDs; how many classes and tests; how many types.
type weight [3]int

// weigh tells a selector's weight.
func weigh(s cssparse.Selector) weight { return sum(s, weight.plus) }

// plus tells a weight with a compound's put to it.
func (w weight) plus(c cssparse.Compound) weight {
	w[0] += len(c.IDs)
	w[1] += len(c.Classes) + len(c.Tests)
	if c.Type != "" {
		w[2]++
	}
	return w
}

// isLess tells whether a weight is less than another one: the first numbers that differ tell.
func (w weight) isLess(than weight) bool {
	for i := range w {
		if w[i] != than[i] {
			return w[i] < than[i]
		}
	}
	return false
}
