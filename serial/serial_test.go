package serial

import (
	"math"
	"math/rand"
	"slices"
	"strconv"
	"strings"
	"testing"

	"selvedge/api"
	"selvedge/tree"
)

// P6.2

func TestSerializeByHand(t *testing.T) {
	for _, x := range []struct {
		u        api.Tree
		document string
	}{
		{grow(), ""},
		{api.Tree{{Up: -1, Attrs: []api.Attr{}, Kids: []int{}}}, ""},
		{grow(words("a")), "a"},
		{grow(elem("p", words("1 > 0")).with("class", "x\"y"), elem("br")), `<p class="x&quot;y">1 &gt; 0</p><br>`},
		{grow(elem("ul", elem("li", words("a")), elem("li", words("b")))), "<ul><li>a</li><li>b</li></ul>"},
		{grow(words("x"), elem("span", words("y"), elem("div", words("z")), words("w")), words("v")), "x<span>y<div>z</div>w</span>v"},
		{grow(elem("b"), elem("b"), elem("i", elem("b"))), "<b></b><b></b><i><b></b></i>"},
		{grow(words("x"), elem("wbr"), words("y"), elem("hr"), words("z"), elem("br")), "x<wbr>y<hr>z<br>"},
		{grow(elem("a", elem("bdi", elem("q", elem("br")), words("1")), words("2")), words("3")), "<a><bdi><q><br></q>1</bdi>2</a>3"},
		{grow(elem("p").with("z", "", "a", "1", "m-_0", " "), elem("hr").with("id", "x", "dir", "rtl")), `<p z="" a="1" m-_0=" "></p><hr id="x" dir="rtl">`},
		{grow(elem("b").with("t", "a&b<c>d\"e\u00A0f\rg'h`i\n")), "<b t=\"a&amp;b<c>d&quot;e&nbsp;f&#13;g'h`i\n\"></b>"},
		{grow(elem("b", words("a&b<c>d\"e\u00A0f\rg'h`i\n"))), "<b>a&amp;b&lt;c&gt;d\"e&nbsp;f&#13;g'h`i\n</b>"},
		{grow(words("<p>"), elem("p", words("&amp;")).with("t", "&amp;")), `&lt;p&gt;<p t="&amp;amp;">&amp;amp;</p>`},
		{grow(elem("bdo", words("\u05D0\u00A0")).with("dir", "\u05D0")), "<bdo dir=\"\u05D0\">\u05D0&nbsp;</bdo>"},
	} {
		holdDocument(t, x.u, x.document)
		holdRound(t, x.u)
	}
}

func TestSerializeOfEveryElement(t *testing.T) {
	names := elements()
	if len(names) != 41 {
		t.Fatalf("%d elements", len(names))
	}
	for _, name := range names {
		if name == "br" || name == "wbr" || name == "hr" {
			holdDocument(t, grow(elem(name)), "<"+name+">")
			holdDocument(t, grow(elem("div", words("x"), elem(name).with("id", "1"), words("y"))), `<div>x<`+name+` id="1">y</div>`)
			continue
		}
		holdDocument(t, grow(elem(name)), "<"+name+"></"+name+">")
		holdDocument(t, grow(words("x"), elem(name, words("y"), elem("br")).with("id", "1"), words("z")), `x<`+name+` id="1">y<br></`+name+`>z`)
	}
}

// spoilt tells trees that are not right, each by one thing that is not.
func spoilt() []api.Tree {
	base := func() api.Tree {
		return grow(words("x"), elem("div", elem("p", words("y"), elem("br"), elem("b", words("z")).with("id", "1", "dir", "ltr"))), elem("i"))
	}
	list := []api.Tree{nil, {}, {{}}, {{Up: 0}}, {{Up: 1}}, {{Up: -2}}, {{Kind: api.Element, Name: "p", Up: -1}}, {{Kind: api.Text, Data: "a", Up: -1}}, {{Kind: 3, Up: -1}}, {{Up: -1, Name: "p"}}, {{Up: -1, Data: "a"}}, {{Up: -1, Attrs: []api.Attr{{Name: "id"}}}}, {{Up: -1, Kids: []int{0}}}, {{Up: -1, Kids: []int{1}}}}
	for _, spoil := range []func(u api.Tree){
		func(u api.Tree) { u[2].Kind = 3 }, func(u api.Tree) { u[2].Kind = api.Document }, func(u api.Tree) { u[2].Kind = math.MaxUint8 }, func(u api.Tree) { u[1].Kind = api.Element },
		func(u api.Tree) { u[1].Data = "" }, func(u api.Tree) { u[1].Data = "\xFF" }, func(u api.Tree) { u[1].Data = "a\x00" }, func(u api.Tree) { u[1].Name = "b" }, func(u api.Tree) { u[1].Attrs = []api.Attr{{Name: "id"}} }, func(u api.Tree) { u[1].Kids = []int{1} },
		func(u api.Tree) { u[2].Name = "" }, func(u api.Tree) { u[2].Name = "DIV" }, func(u api.Tree) { u[2].Name = "table" }, func(u api.Tree) { u[2].Name = "p" }, func(u api.Tree) { u[2].Data = "x" }, func(u api.Tree) { u[3].Name = "br" },
		func(u api.Tree) { u[6].Attrs[0].Name = "" }, func(u api.Tree) { u[6].Attrs[0].Name = "ID" }, func(u api.Tree) { u[6].Attrs[0].Name = "a b" }, func(u api.Tree) { u[6].Attrs[0].Name = "a>" }, func(u api.Tree) { u[6].Attrs[1].Name = "id" }, func(u api.Tree) { u[6].Attrs[1].Value = "\xC2" }, func(u api.Tree) { u[6].Attrs[1].Value = "\x00" },
		func(u api.Tree) { u[2].Up = -1 }, func(u api.Tree) { u[2].Up = 2 }, func(u api.Tree) { u[2].Up = 1 }, func(u api.Tree) { u[2].Up = 7 }, func(u api.Tree) { u[2].Up = math.MaxInt }, func(u api.Tree) { u[2].Up = math.MinInt },
		func(u api.Tree) { u[0].Kids = nil }, func(u api.Tree) { u[0].Kids = []int{2, 1, 8} }, func(u api.Tree) { u[0].Kids = []int{1, 2, 8, 8} }, func(u api.Tree) { u[0].Kids = []int{1, 2, 8, 9} }, func(u api.Tree) { u[0].Kids[0] = 0 }, func(u api.Tree) { u[2].Kids[0] = 2 }, func(u api.Tree) { u[2].Kids[0] = math.MinInt }, func(u api.Tree) { u[3].Kids = []int{4, 5, math.MaxInt} },
	} {
		u := base()
		spoil(u)
		list = append(list, u)
	}
	many := grow(elem("b"))
	for i := range 17 {
		many[1].Attrs = append(many[1].Attrs, api.Attr{Name: "a" + strconv.Itoa(i)})
	}
	deep := grow(nest(elem("br"), slices.Repeat([]string{"b"}, 200)...))
	return append(list, many, deep,
		grow(words("a"), words("b")), grow(elem("p", elem("p"))), grow(elem("p", elem("b", elem("div")))), grow(elem("a", elem("a"))), grow(elem("h1", elem("h2"))), grow(elem("li", elem("div", elem("li")))), grow(elem("br", words("a"))), grow(elem("hr", elem("b"))), grow(elem("img")), grow(slices.Repeat([]branch{elem("br")}, 16384)...))
}

func TestSerializeOfTreesThatAreNotRight(t *testing.T) {
	for _, u := range spoilt() {
		holdError(t, u, api.ErrTree)
		if len(u) > 0 { // what is wrong comes ahead of what is too long
			v := append(copied(u), api.Node{Kind: api.Text, Data: strings.Repeat("a", api.MaxBytes+1)})
			v[0].Kids = append(v[0].Kids, len(u))
			holdError(t, v, api.ErrTree)
		}
	}
}

func TestSerializeAsksWhetherTheTreeIsRight(t *testing.T) {
	source := rand.New(rand.NewSource(66))
	wrong := 0
	for range 20000 {
		u := randomTree(source)
		n := &u[source.Intn(len(u))]
		switch source.Intn(7) {
		case 0:
			n.Kind = uint8(source.Intn(4))
		case 1:
			n.Name = elements()[source.Intn(41)]
		case 2:
			n.Data = randomText(source)
		case 3:
			n.Up += source.Intn(3) - 1
		case 4:
			n.Kids = append(n.Kids, source.Intn(len(u)+1))
		case 5:
			n.Attrs = append(n.Attrs, api.Attr{Name: "dir"})
		case 6:
			u = append(u, randomNode(source))
		}
		if tree.Right(u) == api.OK {
			holdDocument(t, u, want(u))
			continue
		}
		wrong++
		holdError(t, u, api.ErrTree)
	}
	if wrong < 5000 {
		t.Errorf("only %d trees are not right", wrong)
	}
}

// edges tells makers of trees, and how long their documents are without the n letters that they get.
func edges() []struct {
	make func(letters string) api.Tree
	rest int
} {
	many := strings.Repeat("&", 10000)
	return []struct {
		make func(letters string) api.Tree
		rest int
	}{
		{func(s string) api.Tree { return grow(words(s)) }, 0},
		{func(s string) api.Tree { return grow(words(s + "&")) }, len("&amp;")},
		{func(s string) api.Tree { return grow(words("\u00A0<>" + s + "\r")) }, len("&nbsp;&lt;&gt;&#13;")},
		{func(s string) api.Tree { return grow(words(many + s)) }, 50000},
		{func(s string) api.Tree { return grow(words(s + "\u05D0\u2029")) }, 5},
		{func(s string) api.Tree { return grow(elem("p", words(s))) }, len("<p></p>")},
		{func(s string) api.Tree { return grow(words(s), elem("blockquote")) }, len("<blockquote></blockquote>")},
		{func(s string) api.Tree { return grow(words(s), elem("wbr")) }, len("<wbr>")},
		{func(s string) api.Tree { return grow(elem("b").with("id", s)) }, len(`<b id=""></b>`)},
		{func(s string) api.Tree { return grow(elem("hr").with("id", s+"\"")) }, len(`<hr id="&quot;">`)},
		{func(s string) api.Tree { return grow(elem("hr").with("a", many, "b", s, "c", "")) }, len(`<hr a="" b="" c="">`) + 50000},
		{func(s string) api.Tree { return grow(elem("br").with(s, "")) }, len(`<br ="">`)},
		{func(s string) api.Tree {
			return grow(nest(words(s), "div", "ul", "li", "b", "i"), elem("br"), words("&"))
		}, len("<div><ul><li><b><i></i></b></li></ul></div><br>&amp;")},
		{func(s string) api.Tree { return grow(elem("b", words(s)), elem("b", words("x"))) }, len("<b></b><b>x</b>")},
	}
}

func TestSerializeAtItsLimit(t *testing.T) {
	for i, x := range edges() {
		n := api.MaxBytes - x.rest
		u := x.make(strings.Repeat("a", n))
		s, e := Serialize(u)
		if len(s) != 65536 || e != api.OK {
			t.Fatalf("%d: %d bytes, %d", i, len(s), e)
		}
		holdRound(t, u)
		holdRound(t, x.make(strings.Repeat("a", n-1)))
		for _, more := range []int{1, 2, 3, 5, 100, 65536, 1 << 20} {
			holdError(t, x.make(strings.Repeat("a", n+more)), api.ErrLimit)
		}
	}
}

func TestSerializeOfFarMoreThanItsLimit(t *testing.T) {
	long := strings.Repeat("&", 1<<16)
	var list []branch
	for range 8000 {
		list = append(list, words(long), elem("br"))
	}
	holdError(t, grow(list...), api.ErrLimit)
	b := elem("b")
	for i := range 16 {
		b = b.with("a"+strconv.Itoa(i), long)
	}
	holdError(t, grow(slices.Repeat([]branch{b}, 1000)...), api.ErrLimit)
	holdError(t, grow(words(strings.Repeat("\u00A0", 1<<24))), api.ErrLimit)
	holdError(t, grow(slices.Repeat([]branch{elem("b")}, 16383)...), api.ErrLimit)
}

// DOC.md's rules for all layers

func TestTreesAreOnlyRead(t *testing.T) {
	u := grow(elem("div", words("a&"), elem("b").with("id", "\"", "dir", "rtl"), words("c")).with("class", "&"), elem("br"), words("d"))
	for i := range u {
		u[i].Attrs = append(u[i].Attrs, api.Attr{Name: "behind", Value: "it"})[:len(u[i].Attrs)]
		u[i].Kids = append(u[i].Kids, 77)[:len(u[i].Kids)]
	}
	u = append(u, api.Node{Name: "behind"})[:len(u)]
	before := copied(u)
	const document = `<div class="&amp;">a&amp;<b id="&quot;" dir="rtl"></b>c</div><br>d`
	holdDocument(t, u, document)
	holdDocument(t, u, document)
	if !same(u, before) || u[:len(u)+1][len(u)].Name != "behind" {
		t.Errorf("%v became %v", before, u)
	}
	for i, n := range u {
		if n.Attrs[:len(n.Attrs)+1][len(n.Attrs)] != (api.Attr{Name: "behind", Value: "it"}) || n.Kids[:len(n.Kids)+1][len(n.Kids)] != 77 {
			t.Errorf("what lies behind the lists of node %d was changed", i)
		}
	}
}

func TestDocumentsAreNewMemory(t *testing.T) {
	u := grow(words("plain text"))
	s, _ := Serialize(u)
	again, _ := Serialize(u)
	if shares(s, u[1].Data) || shares(s, again) {
		t.Error("a document shares memory with its tree, or with another one")
	}
}
