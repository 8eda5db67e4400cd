package tree

import (
	"math"
	"math/rand"
	"slices"
	"strconv"
	"strings"
	"testing"

	"selvedge/api"
	"selvedge/token"
)

// rough makes a tree of a document just as its tags stand, each element with its end, whatever may stand where; each text is one of its own.
func rough(t *testing.T, s string) api.Tree {
	t.Helper()
	l, e, _ := token.Tokens(s)
	if e != api.OK {
		t.Fatalf("%s: %d", brief(s), e)
	}
	u := api.Tree{{Up: -1}}
	now := 0
	for _, x := range l {
		n := api.Node{Kind: api.Text, Data: x.Data, Up: now}
		switch x.Kind {
		case token.Comment:
			continue
		case token.End:
			now = u[now].Up
			continue
		case token.Start:
			n = api.Node{Kind: api.Element, Name: x.Name, Attrs: x.Attrs, Up: now}
		}
		u[now].Kids = append(u[now].Kids, len(u))
		u = append(u, n)
		if x.Kind == token.Start && chartedKinds[x.Name] < 7 {
			now = len(u) - 1
		}
	}
	return u
}

// nested tells elements within one another, with their ends.
func nested(names ...string) string {
	s := ""
	for _, name := range slices.Backward(names) {
		s = "<" + name + ">" + s
		if chartedKinds[name] < 7 {
			s += "</" + name + ">"
		}
	}
	return s
}

// P5.4

func TestRightOfNothing(t *testing.T) {
	checkRight(t, nil, false)
	checkRight(t, api.Tree{}, false)
	checkRight(t, api.Tree{{Up: -1}}, true)
	checkRight(t, api.Tree{{Up: -1, Attrs: []api.Attr{}, Kids: []int{}}}, true)
}

func TestRightByWhatStandsWhere(t *testing.T) {
	for _, x := range []struct {
		s     string
		right bool
	}{
		{"<p>a<b>b</b>c</p>d", true}, {"a<!-- -->b", false}, {"<p>a<!-- -->b</p>", false}, {"<p>a</p>b", true}, {"a<b></b>b", true}, {"a<br>b", true}, {"<b>a</b><i>b</i>", true}, {"<i>x<b>a<!-- -->b</b></i>", false},
		{nested("p", "p"), false}, {nested("p", "div"), false}, {nested("p", "b", "a", "hr"), false}, {nested("p", "i", "li"), false}, {nested("p", "h6"), false}, {nested("p", "a", "b", "br"), true}, {nested("div", "p"), true}, {"<p></p><p></p><div></div>", true},
		{nested("a", "a"), false}, {nested("a", "div", "p", "b", "a"), false}, {"<a></a><a></a>", true}, {nested("b", "a"), true},
		{nested("h1", "h1"), false}, {nested("h1", "h2"), false}, {nested("h1", "b", "h2"), true}, {nested("h1", "div", "h2"), true}, {nested("h1", "p", "h2"), false},
		{nested("li", "li"), false}, {nested("li", "b", "li"), false}, {nested("li", "div", "li"), false}, {nested("li", "div", "b", "div", "li"), false}, {nested("li", "ul", "li"), true}, {nested("li", "b", "h3", "div", "li"), true}, {nested("ul", "li", "li"), false}, {nested("li", "ul", "li", "ol", "li"), true}, {nested("li", "ul", "li", "div", "li"), false}, {"<li></li><li></li>", true}, {nested("p", "ul", "li"), false},
		{nested("table"), false}, {nested("b", "img"), false}, {nested("h7"), false},
	} {
		checkRight(t, rough(t, x.s), x.right)
		checkRight(t, rough(t, "x<div>"+x.s+"</div><b>y</b>"), x.right)
	}
}

// TestRightIsWhatCanBeBuilt holds Right against Build: a tree that is whole is right, if its tags, one behind the other, are built as the same tree.
func TestRightIsWhatCanBeBuilt(t *testing.T) {
	hold := func(s string) {
		u := rough(t, s)
		v, e, _ := Build(tokensOf(u))
		checkRight(t, u, e == api.OK && same(u, v))
	}
	all, _ := chart()
	for _, x := range all {
		hold(nested(x))
		for _, y := range all {
			if chartedKinds[x] > 6 {
				continue
			}
			hold(nested(x, y))
			for _, between := range []string{"b", "div", "ul", "h1", "p", "li", "a"} {
				hold(nested(x, between, y))
			}
		}
	}
	names := []string{"div", "ul", "p", "li", "h1", "b", "a", "hr"}
	for _, w := range names[:7] {
		for _, x := range names[:7] {
			for _, y := range names[:7] {
				for _, z := range names {
					hold(nested(w, x, y, z) + "x")
					hold(nested(w, x) + nested(y, z))
				}
			}
		}
	}
}

func TestRightByDepth(t *testing.T) {
	deep := func(n int, leaf string) string {
		return strings.Repeat("<div>", n) + leaf + strings.Repeat("</div>", n)
	}
	checkRight(t, rough(t, deep(200, "a")), true)
	checkRight(t, rough(t, deep(199, "a<b></b><hr><p>b</p><br>")), true)
	for _, leaf := range []string{"<b></b>", "<br>", "<hr>", "<p>a</p>", "a<div>b</div>"} {
		checkRight(t, rough(t, deep(199, leaf)), true)
		checkRight(t, rough(t, deep(200, leaf)), false)
		checkRight(t, rough(t, deep(150, leaf)+deep(150, leaf)), true)
	}
}

func TestRightByNodes(t *testing.T) {
	u := rough(t, strings.Repeat("<br>", 16383))
	checkRight(t, u, true)
	u[0].Kids = append(u[0].Kids, 16384)
	u = append(u, api.Node{Kind: api.Element, Name: "br"})
	checkRight(t, u, false)
	flat := api.Tree{{Up: -1}}
	for i := range 100000 {
		flat[0].Kids = append(flat[0].Kids, i+1)
		flat = append(flat, api.Node{Kind: api.Element, Name: "b"})
	}
	checkRight(t, flat, false)
	checkRight(t, flat[:1], false)
	checkRight(t, flat[:16384], false)
}

// base is a right tree with nodes of all kinds: 0 document, 1 text x, 2 ul, 3 li, 4 text b, 5 br, 6 text c, 7 li, 8 b, 9 text d, 10 text e.
func base() api.Tree {
	u, _, _ := Parse([]byte("x<ul id=a class=b><li>b<br>c<li><b>d</b></ul>e"))
	return u
}

func TestRightByFields(t *testing.T) {
	checkRight(t, base(), true)
	for i, spoil := range []func(u api.Tree){
		// the document
		func(u api.Tree) { u[0].Kind = api.Element },
		func(u api.Tree) { u[0].Kind, u[0].Name = api.Element, "div" },
		func(u api.Tree) { u[0].Kind = api.Text },
		func(u api.Tree) { u[0].Kind = 3 },
		func(u api.Tree) { u[0].Up = 0 },
		func(u api.Tree) { u[0].Up = -2 },
		func(u api.Tree) { u[0].Up = 1 },
		func(u api.Tree) { u[0].Name = "div" },
		func(u api.Tree) { u[0].Data = "x" },
		func(u api.Tree) { u[0].Attrs = []api.Attr{{Name: "a"}} },
		// kinds, and what a kind has not
		func(u api.Tree) { u[2].Kind = api.Document },
		func(u api.Tree) { u[2].Kind, u[2].Name, u[2].Attrs = api.Document, "", nil },
		func(u api.Tree) { u[10].Kind, u[10].Data = api.Document, "" },
		func(u api.Tree) { u[2].Kind = 3 },
		func(u api.Tree) { u[10].Kind = 255 },
		func(u api.Tree) { u[10].Kind = api.Element },
		func(u api.Tree) { u[8].Kind = api.Text },
		func(u api.Tree) { u[8].Kind, u[8].Name, u[8].Data = api.Text, "", "x" },
		func(u api.Tree) { u[8].Data = "x" },
		func(u api.Tree) { u[5].Data = "x" },
		func(u api.Tree) { u[10].Name = "b" },
		func(u api.Tree) { u[10].Attrs = []api.Attr{{Name: "a"}} },
		func(u api.Tree) { u[10].Kids = []int{11} },
		func(u api.Tree) { u[10].Kids = []int{9} },
		// Up and Kids
		func(u api.Tree) { u[1].Up = -1 },
		func(u api.Tree) { u[1].Up = 1 },
		func(u api.Tree) { u[1].Up = 2 },
		func(u api.Tree) { u[10].Up = 11 },
		func(u api.Tree) { u[10].Up = math.MaxInt },
		func(u api.Tree) { u[10].Up = math.MinInt },
		func(u api.Tree) { u[9].Up = 7 },
		func(u api.Tree) { u[0].Kids = nil },
		func(u api.Tree) { u[0].Kids = []int{1, 2} },
		func(u api.Tree) { u[0].Kids = []int{2, 1, 10} },
		func(u api.Tree) { u[0].Kids = []int{10, 2, 1} },
		func(u api.Tree) { u[2].Kids = []int{7, 3} },
		func(u api.Tree) { u[0].Kids = []int{1, 2, 2} },
		func(u api.Tree) { u[0].Kids = []int{1, 2, 2, 10} },
		func(u api.Tree) { u[0].Kids = []int{1, 2, 10, 10} },
		func(u api.Tree) { u[0].Kids = []int{1, 1, 2} },
		func(u api.Tree) { u[0].Kids = []int{1, 2, 3, 10} },
		func(u api.Tree) { u[0].Kids = []int{0, 1, 2, 10} },
		func(u api.Tree) { u[0].Kids = []int{-1, 1, 2, 10} },
		func(u api.Tree) { u[0].Kids = []int{1, 2, 10, 11} },
		func(u api.Tree) { u[0].Kids = []int{1, 2, math.MaxInt} },
		func(u api.Tree) { u[0].Kids = []int{math.MinInt, 2, 10} },
		func(u api.Tree) { u[8].Kids = nil },
		func(u api.Tree) { u[8].Kids = []int{8} },
		func(u api.Tree) { u[8].Kids, u[7].Kids = nil, []int{8, 9} },
		func(u api.Tree) { u[5].Kids = []int{6} },
		// below what has no content
		func(u api.Tree) { u[6].Up, u[5].Kids, u[3].Kids = 5, []int{6}, []int{4, 5} },
		func(u api.Tree) { u[5].Name = "hr"; u[6].Up, u[5].Kids, u[3].Kids = 5, []int{6}, []int{4, 5} },
		func(u api.Tree) { u[8].Name = "wbr" },
		func(u api.Tree) { u[5].Up, u[4].Kids, u[3].Kids = 4, []int{5}, []int{4, 6} },
		// out of order
		func(u api.Tree) { u[10].Up, u[0].Kids, u[3].Kids = 3, []int{1, 2}, []int{4, 5, 6, 10} },
		func(u api.Tree) { u[9].Up, u[8].Kids, u[3].Kids = 3, nil, []int{4, 5, 6, 9}; u[6].Up = 3 },
		func(u api.Tree) { u[8].Up, u[7].Kids, u[3].Kids = 3, nil, []int{4, 5, 6, 8} },
		// one text behind another
		func(u api.Tree) { u[5].Kind, u[5].Name, u[5].Data = api.Text, "", "x" },
		func(u api.Tree) {
			u[8].Kind, u[8].Name, u[8].Data = api.Text, "", "x"
			u[8].Kids, u[7].Kids = nil, []int{8, 9}
			u[9].Up = 7
		},
		// data
		func(u api.Tree) { u[4].Data = "" },
		func(u api.Tree) { u[4].Data = "\x00" },
		func(u api.Tree) { u[4].Data = "ab\x00c" },
		func(u api.Tree) { u[4].Data = "\xFF" },
		func(u api.Tree) { u[4].Data = "a\xED\xA0\x80" },
		func(u api.Tree) { u[4].Data = "\xC0\x80" },
		func(u api.Tree) { u[4].Data = "\u05D0\xD7" },
		// elements
		func(u api.Tree) { u[8].Name = "" },
		func(u api.Tree) { u[8].Name = "B" },
		func(u api.Tree) { u[8].Name = "table" },
		func(u api.Tree) { u[8].Name = "b " },
		func(u api.Tree) { u[8].Name = "li" },
		func(u api.Tree) { u[2].Name = "div"; u[8].Name = "h1"; u[7].Name = "h1" },
	} {
		u := base()
		spoil(u)
		if e := Right(u); e != api.ErrTree || wantRight(u) {
			t.Errorf("%d: %d, by the second account %v: %v", i, e, wantRight(u), u)
		}
	}
	for i, change := range []func(u api.Tree){
		func(u api.Tree) { u[4].Data = "\n\r\x01\u05D0\uFFFD\U0010FFFF<&>" },
		func(u api.Tree) { u[5].Name = "hr" },
		func(u api.Tree) { u[2].Name = "span"; u[3].Name, u[7].Name = "div", "p" },
		func(u api.Tree) { u[9].Attrs, u[9].Kids = []api.Attr{}, []int{} },
		func(u api.Tree) { u[10].Up, u[0].Kids, u[7].Kids = 7, []int{1, 2}, []int{8, 10} },
	} {
		u := base()
		change(u)
		if e := Right(u); e != api.OK || !wantRight(u) {
			t.Errorf("%d: %d, by the second account %v: %v", i, e, wantRight(u), u)
		}
	}
}

func TestRightByAttributes(t *testing.T) {
	hold := func(right bool, l ...api.Attr) {
		t.Helper()
		for _, i := range []int{2, 5, 8} {
			u := base()
			u[i].Attrs = l
			checkRight(t, u, right)
		}
	}
	many := func(n int) []api.Attr {
		var l []api.Attr
		for i := range n {
			l = append(l, api.Attr{Name: "a" + strconv.Itoa(i)})
		}
		return l
	}
	for b := range 256 {
		sign := string([]byte{byte(b)})
		small := strings.Contains("abcdefghijklmnopqrstuvwxyz0123456789-_", sign)
		hold(small, api.Attr{Name: sign})
		hold(small, api.Attr{Name: "a" + sign + "b"})
		hold(small, api.Attr{Name: "ab" + sign, Value: "A B"})
		hold(b > 0 && b < 128, api.Attr{Name: "a", Value: sign})
	}
	hold(true)
	hold(true, api.Attr{Name: "a"}, api.Attr{Name: "b"}, api.Attr{Name: "ab"}, api.Attr{Name: "a-"})
	hold(true, api.Attr{Name: "a", Value: "\u05D0\"'<>&\r\n"}, api.Attr{Name: "b", Value: "\u05D0\"'<>&\r\n"})
	hold(false, api.Attr{})
	hold(false, api.Attr{Value: "x"})
	hold(false, api.Attr{Name: "a"}, api.Attr{Name: "a"})
	hold(false, api.Attr{Name: "a"}, api.Attr{Name: "b"}, api.Attr{Name: "a", Value: "x"})
	hold(false, api.Attr{Name: "a"}, api.Attr{Name: "\u05D0"})
	hold(false, api.Attr{Name: "a", Value: "x"}, api.Attr{Name: "b", Value: "x\xFF"})
	hold(false, api.Attr{Name: "a", Value: "\xED\xA0\x80"})
	hold(false, api.Attr{Name: "a", Value: "ab\x00"})
	hold(true, many(16)...)
	hold(false, many(17)...)
	hold(false, many(100000)...)
	hold(false, append(many(15), api.Attr{Name: "a14"})...)
}

// spoil changes one field of a tree to something that may or may not be there.
func spoil(u api.Tree, source *rand.Rand) {
	names := []string{"", "b", "p", "li", "div", "ul", "h1", "a", "br", "hr", "table", "P"}
	n := &u[source.Intn(len(u))]
	some := func() int { return source.Intn(len(u)+3) - 2 }
	switch source.Intn(9) {
	case 0:
		n.Kind = uint8(source.Intn(4))
	case 1, 2, 3:
		n.Name = names[source.Intn(len(names))]
	case 4:
		n.Data = []string{"", "a", "\x00", "\xFF"}[source.Intn(4)]
	case 5:
		n.Attrs = append(slices.Clip(n.Attrs), api.Attr{Name: []string{"a", "b", "", "A"}[source.Intn(4)]})
	case 6:
		n.Up = some()
	case 7:
		n.Kids = append(slices.Clip(n.Kids), some())
	case 8: // a node goes elsewhere, its old place and its new one told of it
		i := 1 + source.Intn(len(u)-1)
		up := max(source.Intn(i)-source.Intn(2), 0)
		old := &u[u[i].Up]
		old.Kids = slices.DeleteFunc(slices.Clone(old.Kids), func(k int) bool { return k == i })
		u[up].Kids = append(slices.Clip(u[up].Kids), i)
		slices.Sort(u[up].Kids)
		u[i].Up = up
	}
}

func TestSpoiltTrees(t *testing.T) {
	source := rand.New(rand.NewSource(54))
	right, wrong := 0, 0
	rows(func(l []token.Token) {
		u, e, _ := Build(l)
		if e != api.OK || len(u) < 3 {
			return
		}
		spoil(u, source)
		want := wantRight(u)
		checkRight(t, u, want)
		if want {
			right++
		} else {
			wrong++
		}
	})
	if right < 1000 || wrong < 1000 {
		t.Errorf("%d right, %d wrong", right, wrong)
	}
}

func TestTreesOfAnything(t *testing.T) {
	source := rand.New(rand.NewSource(540))
	numbers := []int{-1, 0, 0, 0, 1, 1, 2, 3, 4, 5, math.MinInt, math.MaxInt, math.MinInt32, 1 << 40}
	names := []string{"", "b", "p", "li", "br", "x"}
	for range 200000 {
		u := make(api.Tree, source.Intn(5))
		for i := range u {
			n := api.Node{Kind: uint8(source.Intn(3)), Up: numbers[source.Intn(len(numbers))]}
			if n.Kind == api.Element {
				n.Name = names[source.Intn(len(names))]
			} else if n.Kind == api.Text {
				n.Data = "ab"[source.Intn(3):]
			}
			for range source.Intn(3) {
				n.Kids = append(n.Kids, numbers[source.Intn(len(numbers))])
			}
			u[i] = n
		}
		if len(u) > 0 && source.Intn(4) > 0 {
			u[0].Kind, u[0].Name, u[0].Data, u[0].Up = 0, "", "", -1
		}
		checkRight(t, u, wantRight(u))
	}
}

// P5.5

func TestTreesAreOnlyRead(t *testing.T) {
	u := base()
	u[2].Attrs = append(u[2].Attrs, api.Attr{Name: "behind"})[:2]
	u[0].Kids = append(u[0].Kids, 99)[:3]
	whole := append(u, api.Node{Data: "behind"})
	before := textsAndKids(whole)
	if e := Right(whole[:len(u)]); e != api.OK || textsAndKids(whole) != before || u[2].Attrs[:3][2].Name != "behind" || u[0].Kids[:4][3] != 99 {
		t.Errorf("%d: %v", e, whole)
	}
}
