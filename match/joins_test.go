package match

import (
	"math"
	"testing"

	"selvedge/api"
	"selvedge/cssparse"
	"selvedge/tree"
)

// P9.1: a selector that is for a node

// parsed tells the tree of a document.
func parsed(t *testing.T, document string) api.Tree {
	t.Helper()
	l, e, place := tree.Parse([]byte(document))
	if e != api.OK {
		t.Fatalf("%q: %d at %d", document, e, place)
	}
	return l
}

func TestExamples(t *testing.T) {
	l := parsed(t, `<div class="a b"><p>x</p><span id=x dir=rtl></span></div>`)
	for s, want := range map[string]string{
		"*": "1 2 4", ".a p": "2", "div > span#x[dir=rtl]": "4", "p + span": "4", "div div": "", "span + p": "", ".a.b.c": "", "#x#y": "", "[dir]": "4",
	} {
		holdSelect(t, l, s, want)
	}
	if a, b, c := Weight(selector(t, "div > span#x[dir=rtl]")); a != 1 || b != 1 || c != 2 {
		t.Error(a, b, c)
	}
}

func TestJoinsInDocuments(t *testing.T) {
	l := parsed(t, `<div><p>x<b>y</b>z<i>w</i></p>t<ul><li><b>u</b></li><li>v</li></ul></div><div class=k><b></b>x<b></b></div>`)
	// 0 document, 1 div, 2 p, 3 x, 4 b, 5 y, 6 z, 7 i, 8 w, 9 t, 10 ul, 11 li, 12 b, 13 u, 14 li, 15 v, 16 div, 17 b, 18 x, 19 b
	for s, want := range map[string]string{
		"div b": "4 12 17 19", "div > b": "17 19", "p > b": "4", "div p b": "4", "div > p > b": "4", "p b b": "", "li b": "12", "ul > b": "", "ul b": "12", "* b": "4 12 17 19", "* > *": "2 4 7 10 11 12 14 17 19", "* * *": "4 7 11 12 14", "* * * *": "12", "* * * * *": "",
		"b + i": "7", "p + ul": "10", "ul + p": "", "li + li": "14", "b + b": "19", "* + *": "7 10 14 16 19", "div + div": "16", "div + .k b": "17 19", "div + .k > b": "17 19", "div + .k b + b": "19", "p + ul b": "12", "p + ul > b": "", "p + ul > li b": "12", "div p + ul li + li": "14", "b + b + b": "",
		"div > p + ul > li > b": "12", "div + p": "", "p > i": "7", "p + b": "",
	} {
		holdSelect(t, l, s, want)
	}
}

// A nearer ancestor that fits may lead nowhere, where a farther one does lead on.
func TestFartherAncestorsAreTried(t *testing.T) {
	l := parsed(t, `<b></b><div class=x><i></i><div class=y><i></i><div class=z><p></p></div></div></div>`)
	// 1 b, 2 div.x, 3 i, 4 div.y, 5 i, 6 div.z, 7 p
	for s, want := range map[string]string{
		".x > div p": "7", ".x > div div": "6", "b + div p": "7", "b + div div": "4 6", "i + div p": "7", "b + div > div p": "7", "b + div > div > div p": "7", "b + div > div > div": "6", "b + div > i + div p": "7", "b + div > i + div > i + div > p": "7", "b + div i + div p": "7",
		"b + div div div p": "7", "b + div div div div p": "", "b > div p": "", "i + div > i + div p": "7", "i + div > i + div > i + div p": "", ".x div > div p": "7", ".y > div p": "7", ".y div div p": "", ".x div > div > div": "", "b + div > div > p": "", "b + div i + p": "",
	} {
		holdSelect(t, l, s, want)
	}
	// The nearest two lead nowhere, by each join, and the third one does.
	deep := api.Tree{element(-1, "k"), element(-1, "d"), element(1, "e"), element(1, "d"), element(3, "e"), element(3, "d"), element(5, "p")}
	holdSelect(t, deep, "k + d p", "6")
	holdSelect(t, deep, "k + d d + d p", "")
	holdSelect(t, deep, "k + d e + d p", "6")
	holdSelect(t, deep, "k + d > e + d p", "6")
	holdSelect(t, deep, "k + d > e + d > p", "")
	holdSelect(t, deep, "k d p", "")
}

// Behind Next an ancestor's ancestor is asked still.
func TestAncestorsOfWhatIsAhead(t *testing.T) {
	l := api.Tree{root(), element(0, "a"), element(1, "b"), element(2, "c"), element(2, "d"), element(4, "e"), element(4, "f"), element(6, "g")}
	for s, want := range map[string]string{
		"e + f": "6", "d > e + f": "6", "b e + f g": "7", "a b > d > e + f > g": "7", "c + d g": "7", "b > c + d g": "7", "a > c + d g": "", "a c + d g": "7", "a c + d > e + f g": "7", "d c + d": "", "a b c + d e + f g": "7", "c e + f": "", "c + d e + f": "6", "c + d + f": "", "e + f + g": "", "b c + g": "",
	} {
		holdSelect(t, l, s, want)
	}
}

func TestTextsBetween(t *testing.T) {
	l := api.Tree{text(-1), element(-1, "a"), text(-1), text(-1), element(-1, "b"), text(1), element(1, "c"), text(1), {Kind: 0, Name: "a", Up: 1}, {Kind: 7, Name: "c", Up: 1}, element(1, "d"), element(4, "e"), text(4)}
	for s, want := range map[string]string{
		"a + b": "4", "c + d": "10", "a + d": "", "* + *": "4 10", "a + c": "", "b + e": "", "c + e": "", "a + b > e": "11", "a > c + d": "10", "a + b + c": "",
	} {
		holdSelect(t, l, s, want)
	}
	// A text, and what else is no element, has an element ahead of it, but is none.
	holdNodes(t, l, cssparse.Selector{{Type: "a"}, {Join: cssparse.Next}}, "4")
	holdNodes(t, l, cssparse.Selector{{}, {Join: cssparse.Child}}, "6 10 11")
}

// Trees that no document parses to

func TestUpsThatLeadNowhere(t *testing.T) {
	for _, up := range []int{-1, -2, math.MinInt, 2, 3, 4, math.MaxInt} {
		l := api.Tree{element(-1, "a"), element(0, "b"), element(up, "c"), element(2, "d"), element(up, "e")}
		if up == 2 || up == 3 { // of the last one they are a parent
			l[4].Up = -1
		}
		for s, want := range map[string]string{
			"a c": "", "a > c": "", "b + c": "", "a + c": "2", "c d": "3", "c > d": "3", "a + c d": "3", "c + e": "4", "a + c + e": "4", "b + e": "", "d + e": "", "a e": "", "c e": "", "c > e": "", "d e": "",
		} {
			holdSelect(t, l, s, want)
		}
	}
	own := api.Tree{element(0, "a"), element(1, "b"), element(3, "c"), element(2, "d")}
	for s, want := range map[string]string{"*": "0 1 2 3", "* > *": "3", "* *": "3", "* + *": "1 2", "a + b + c > d": "3", "c > d": "3", "d > c": "", "b b": "", "a > a": ""} {
		holdSelect(t, own, s, want)
	}
}

func TestParentsThatAreNoElements(t *testing.T) {
	for _, kind := range []uint8{0, 2, 9} {
		l := api.Tree{element(-1, "a"), {Kind: kind, Name: "b", Up: 0}, element(1, "c"), element(1, "d"), {Kind: kind, Up: 3}, element(4, "e")}
		for s, want := range map[string]string{
			"a c": "2", "a > c": "", "b > c": "", "b c": "", "c + d": "3", "a c + d": "3", "a > c + d": "", "a e": "5", "d e": "5", "d > e": "", "* > *": "", "* *": "2 3 5", "a d e": "5", "a c + d e": "5",
		} {
			holdSelect(t, l, s, want)
		}
	}
}

// Nodes need not stand in the order in which they begin, nor Kids tell of them.
func TestNodesOutOfOrder(t *testing.T) {
	l := api.Tree{element(-1, "a"), element(0, "b"), element(0, "c"), element(1, "d"), element(2, "e"), element(1, "f"), element(0, "g"), element(2, "h")}
	for s, want := range map[string]string{
		"b + c": "2", "c + g": "6", "b + c + g": "6", "d + f": "5", "e + h": "7", "d + e": "", "e + f": "", "b > d + f": "5", "b + c > e + h": "7", "a b + c h": "7", "a > b f": "5", "c f": "", "b h": "",
	} {
		holdSelect(t, l, s, want)
	}
	for i := range l {
		l[i].Kids = []int{7, -1, 1 << 40}
	}
	holdSelect(t, l, "a > b + c > e + h", "7")
}

func TestNumbersOfNoNode(t *testing.T) {
	l := parsed(t, "<p><b>x</b></p>")
	for _, list := range []api.Tree{nil, {}, l[:0], l, l[:1]} {
		for _, i := range []int{math.MinInt, -256, -2, -1, len(list), len(list) + 1, 256, 1 << 32, math.MaxInt} {
			for _, s := range []cssparse.Selector{nil, {}, {{}}, selector(t, "*"), selector(t, "p > b"), selector(t, "b + b"), selector(t, "* *")} {
				if Matches(list, i, s) {
					t.Errorf("Matches(%s, %d, %s) = true", showTree(list), i, showSelector(s))
				}
			}
		}
	}
}

func TestSelectorsWithoutCompounds(t *testing.T) {
	for _, l := range []api.Tree{nil, {root()}, {element(-1, "")}, parsed(t, "<p class=a>x<b>y</b></p>")} {
		holdNodes(t, l, nil, "")
		holdNodes(t, l, cssparse.Selector{}, "")
	}
}

// How the first compound is joined counts nothing; of any other one a join of no name leads nowhere.
func TestEveryJoin(t *testing.T) {
	l := api.Tree{element(-1, "a"), element(0, "b"), element(1, "c"), element(1, "d")}
	for join := range 256 {
		j := uint8(join)
		holdNodes(t, l, cssparse.Selector{{Join: j, Type: "b"}}, "1")
		holdNodes(t, l, cssparse.Selector{{Join: j, Type: "a"}, {Join: cssparse.Descendant, Type: "d"}}, "3")
		holdNodes(t, l, cssparse.Selector{{Join: j, Type: "b"}, {Join: cssparse.Child, Type: "c"}, {Join: cssparse.Next, Type: "d"}}, "3")
		want := map[uint8]string{cssparse.Descendant: "1 2 3", cssparse.Child: "1 2 3", cssparse.Next: "3"}[j]
		holdNodes(t, l, cssparse.Selector{{}, {Join: j}}, want)
		want = map[uint8]string{cssparse.Descendant: "2 3", cssparse.Child: "2 3"}[j]
		holdNodes(t, l, cssparse.Selector{{}, {Join: j}, {Join: cssparse.Descendant}}, want)
		want = map[uint8]string{cssparse.Descendant: "3", cssparse.Child: "3"}[j]
		holdNodes(t, l, cssparse.Selector{{Type: "b"}, {Join: j, Type: "c"}, {Join: cssparse.Next, Type: "d"}}, want)
	}
}
