package tree

import (
	"math/rand"
	"slices"
	"strconv"
	"strings"
	"testing"
	"unsafe"

	"selvedge/api"
	"selvedge/token"
)

// P5.2, P5.3: documents that are trees

func TestExamples(t *testing.T) {
	for _, x := range [][2]string{
		{"", "()"},
		{"<p>a<p>b", "((p'a)(p'b))"},
		{"<ul><li>a<li>b</ul>", "((ul(li'a)(li'b)))"},
		{"<p>a<!-- x -->b", "((p'ab))"},
		{"<p Class='a &amp; b' id=x>1 &lt; 2</p>", `((p "class"="a & b" "id"="x"'1 < 2))`},
		{"<p>\xFF\r\n", "((p'\uFFFD\n))"},
		{" \n", "(' \n)"},
	} {
		wantTree(t, x[0], x[1])
	}
	wantError(t, "<b><p>x</b>", api.ErrNest, 3)
	wantError(t, "</br>", api.ErrNest, 0)
	wantError(t, "<p><b><div>", api.ErrNest, 2)
	wantError(t, "<a><a>", api.ErrNest, 1)
	wantError(t, "<table>", api.ErrElement, 0)
}

func TestCommentsAndDoctypes(t *testing.T) {
	wantTree(t, "<!doctype html>a", "('a)")
	wantTree(t, "<!DOCTYPE>", "()")
	wantTree(t, "<!doctype html><!-- -->a<!---->b<!-- x --><b>c</b><!-- -->", "('ab(b'c))")
	wantTree(t, "<!-- --><!---->", "()")
	wantError(t, "a<!doctype html>", api.ErrNest, 1)
	wantError(t, "<!-- --><!doctype html>", api.ErrNest, 1)
	wantError(t, " <!doctype html>", api.ErrNest, 1)
	wantError(t, "<!doctype html><!doctype html>", api.ErrNest, 1)
	wantError(t, "<p><b>a</b></p><!doctype html>", api.ErrNest, 5)
}

func TestTexts(t *testing.T) {
	wantTree(t, "a<b>b</b>c<!-- -->d", "('a(b'b)'cd)")
	wantTree(t, "a<br>b<wbr/>c", "('a(br)'b(wbr)'c)")
	wantTree(t, "<b>a</b>b", "((b'a)'b)")
	wantTree(t, "<b><i>a</i></b>b<!-- -->c", "((b(i'a))'bc)")
	wantTree(t, "<ul> <li>a</li> </ul>", "((ul' (li'a)' ))")
	wantTree(t, "a<!-- --><b><!-- -->b<!-- -->c</b><!-- -->d", "('a(b'bc)'d)")
	for _, x := range []struct {
		l    []token.Token
		want string
	}{
		{nil, "()"},
		{[]token.Token{}, "()"},
		{[]token.Token{text("")}, "()"},
		{[]token.Token{text("a"), text(""), text("b")}, "('ab)"},
		{[]token.Token{start("b"), text(""), end("b"), text("b"), text("c")}, "((b)'bc)"},
		{[]token.Token{text("a"), start("b"), text("b"), end("b"), text("c"), {Kind: token.Comment, Data: "x"}, text("d")}, "('a(b'b)'cd)"},
		{[]token.Token{text("a"), {Kind: 9, Name: "b", Data: "x"}, text("b"), {}, {Kind: 255, Name: "table"}}, "('ab)"},
		{[]token.Token{{Kind: token.Text, Name: "table", Self: true, Data: "a"}}, "('a)"},
		{[]token.Token{start("br"), {Kind: token.Start, Name: "wbr", Self: true, Data: "x"}, start("hr")}, "((br)(wbr)(hr))"},
		{[]token.Token{start("b"), {Kind: token.End, Name: "b", Self: true, Data: "x", Attrs: []api.Attr{{Name: "a"}}}}, "((b))"},
	} {
		if u, e, at := Build(x.l); show(u) != x.want || e != api.OK || at != 0 {
			t.Errorf("Build(%v) = %s, %d at %d, want %s", x.l, show(u), e, at, x.want)
		}
		check(t, x.l)
	}
	for _, l := range [][]token.Token{{{}, {Kind: token.Doctype}}, {text(""), {Kind: token.Doctype}}, {{Kind: token.Doctype}, {Kind: token.Doctype}}} {
		if u, e, at := Build(l); len(u) != 0 || e != api.ErrNest || at != 1 {
			t.Errorf("Build(%v) = %s, %d at %d", l, show(u), e, at)
		}
	}
}

func TestElementsOutsideTheSubset(t *testing.T) {
	for _, name := range []string{"table", "html", "body", "h7", "pp", "input", "script", "img", "x1"} {
		wantError(t, "<"+name+">", api.ErrElement, 0)
		wantError(t, "</"+name+">", api.ErrElement, 0)
		wantError(t, "<"+name+"/>", api.ErrElement, 0)
		wantError(t, "<p>a<"+name+">", api.ErrElement, 2)
		wantError(t, "<p>a</"+name+"></b>", api.ErrElement, 2)
	}
	for _, name := range []string{"", "P", "p ", " ", "Div", "\x00", "li\xFF"} {
		for _, l := range [][]token.Token{{start(name)}, {end(name)}} {
			if u, e, at := Build(l); len(u) != 0 || e != api.ErrElement || at != 0 {
				t.Errorf("Build(%v) = %s, %d at %d", l, show(u), e, at)
			}
		}
	}
}

func TestSelfClosed(t *testing.T) {
	for name, kind := range chartedKinds {
		switch kind {
		case 7, 8:
			wantTree(t, "<"+name+"/>a<"+name+">b", "(("+name+")'a("+name+")'b)")
			wantError(t, "a</"+name+">", api.ErrNest, 1)
			wantError(t, "<"+name+"></"+name+">", api.ErrNest, 1)
		default:
			wantError(t, "<"+name+"/>", api.ErrNest, 0)
			wantError(t, "a<"+name+" id=x />", api.ErrNest, 1)
			wantTree(t, "<"+name+"></"+name+">a", "(("+name+")'a)")
		}
	}
}

func TestParagraphs(t *testing.T) {
	for name, kind := range chartedKinds {
		switch kind {
		case 1, 2, 3, 4:
			wantTree(t, "<p>a<"+name+">b", "((p'a)("+name+"'b))")
			wantTree(t, "<div><p><"+name+">", "((div(p)("+name+")))")
			wantError(t, "<p><b><"+name+">", api.ErrNest, 2)
			wantError(t, "<p><a><i>x<"+name+">", api.ErrNest, 4)
		case 8:
			wantTree(t, "<p>a<"+name+">b", "((p'a)("+name+")'b)")
			wantError(t, "<p><b><"+name+">", api.ErrNest, 2)
		case 7:
			wantTree(t, "<p>a<"+name+">b<b><"+name+">", "((p'a("+name+")'b(b("+name+"))))")
		default:
			wantTree(t, "<p>a<"+name+">b", "((p'a("+name+"'b)))")
		}
	}
	wantTree(t, "<b><p>a<p>b</p></b>", "((b(p'a)(p'b)))")
	wantTree(t, "<p>a</p>b", "((p'a)'b)")
	wantTree(t, "<p><b>a</b><p>", "((p(b'a))(p))")
	wantError(t, "</p>", api.ErrNest, 0)
	wantError(t, "<p></p></p>", api.ErrNest, 2)
	wantError(t, "<p><b></p>", api.ErrNest, 2)
	wantError(t, "<p><div></p>", api.ErrNest, 2)
}

func TestItems(t *testing.T) {
	wantTree(t, "<li>a<li>b", "((li'a)(li'b))")
	wantTree(t, "<li><p>a<li>b", "((li(p'a))(li'b))")
	wantTree(t, "<li><ul><li>a</ul><li>b", "((li(ul(li'a)))(li'b))")
	wantTree(t, "<ul><li><p>a</ul>b", "((ul(li(p'a)))'b)")
	wantTree(t, "<li><p>a</li>b", "((li(p'a))'b)")
	wantTree(t, "<p>a<li>b", "((p'a)(li'b))")
	wantTree(t, "<div><li>a<li>b</div>c", "((div(li'a)(li'b))'c)")
	wantTree(t, "<li><p><hr><li>", "((li(p)(hr))(li))")
	wantTree(t, "<li><b></b><li>", "((li(b))(li))")
	wantError(t, "<li><b><li>", api.ErrNest, 2)
	wantError(t, "<li><b><p><li>", api.ErrNest, 3)
	wantError(t, "<li><p><b><li>", api.ErrNest, 3)
	wantError(t, "<p><b><li>", api.ErrNest, 2)
	wantError(t, "<li><b></li>", api.ErrNest, 2)
	wantError(t, "</li>", api.ErrNest, 0)
	wantError(t, "<p></li>", api.ErrNest, 1)
}

func TestWalls(t *testing.T) {
	for name, kind := range chartedKinds {
		switch {
		case name == "div", kind == 5, kind == 6:
			wantError(t, "<li><"+name+"><li>", api.ErrNest, 2)
			wantError(t, "<li><"+name+"><p><li>", api.ErrNest, 3)
			wantError(t, "<ul><li><"+name+"><b><li>", api.ErrNest, 4)
		case kind == 1, kind == 4:
			wantTree(t, "<li><"+name+"><li>a", "((li("+name+"(li'a))))")
			wantTree(t, "<li><b><"+name+"><div><p><li>a<li>b", "((li(b("+name+"(div(p)(li'a)(li'b))))))")
		}
	}
}

func TestHeadings(t *testing.T) {
	wantTree(t, "<h1>a</h1><h2>b</h2>", "((h1'a)(h2'b))")
	wantTree(t, "<h1><b><h2>", "((h1(b(h2))))")
	wantTree(t, "<h1><div><h1>", "((h1(div(h1))))")
	wantTree(t, "<p><h6>", "((p)(h6))")
	wantTree(t, "<h1><p>", "((h1(p)))")
	for n := range 36 {
		a, b := "h"+strconv.Itoa(1+n/6), "h"+strconv.Itoa(1+n%6)
		wantError(t, "<"+a+"><"+b+">", api.ErrNest, 1)
		wantError(t, "<"+a+">x<p><"+b+">", api.ErrNest, 3)
		wantTree(t, "<"+a+"></"+a+"><"+b+">", "(("+a+")("+b+"))")
		if a != b {
			wantError(t, "<"+a+"></"+b+">", api.ErrNest, 1)
		}
	}
}

func TestAnchors(t *testing.T) {
	wantTree(t, "<a>a</a><a>b</a>", "((a'a)(a'b))")
	wantTree(t, "<a><div><p>b", "((a(div(p'b))))")
	wantError(t, "<a><b><a>", api.ErrNest, 2)
	wantError(t, "<a><div><ul><li><p><a>", api.ErrNest, 5)
	wantError(t, "<a></b></a>", api.ErrNest, 1)
}

func TestEnds(t *testing.T) {
	for name, kind := range chartedKinds {
		if kind < 7 {
			wantError(t, "</"+name+">", api.ErrNest, 0)
			wantError(t, "<"+name+"></"+name+"></"+name+">", api.ErrNest, 2)
			wantError(t, "<"+name+"><b><i></b>", api.ErrNest, 3)
		}
		if kind == 1 {
			wantTree(t, "<"+name+"><p>a</"+name+">b", "(("+name+"(p'a))'b)")
			wantTree(t, "<"+name+"><li><p>a</"+name+">b", "(("+name+"(li(p'a)))'b)")
			wantError(t, "<"+name+"><b><p></"+name+">", api.ErrNest, 3)
			wantError(t, "<li><p></"+name+">", api.ErrNest, 2)
		} else if kind >= 4 && kind < 7 {
			wantError(t, "<"+name+"><p></"+name+">", api.ErrNest, 2)
			wantError(t, "<"+name+"><li></"+name+">", api.ErrNest, 2)
		}
	}
	wantError(t, "<ul><li></ol>", api.ErrNest, 2)
	wantError(t, "<b></i>", api.ErrNest, 1)
	wantError(t, "<p><li></p>", api.ErrNest, 2)
}

// P5.2: how deep, how many

func TestDepth(t *testing.T) {
	if api.MaxDepth != 200 {
		t.Fatal(api.MaxDepth)
	}
	for _, x := range []struct{ unit, leaf string }{{"<b>", "<i>"}, {"<div>", "<br>"}, {"<div>", "<hr>"}, {"<ul>", "<li>"}, {"<ul>", "<p>"}, {"<b>", "<wbr/>"}} {
		full := strings.Repeat(x.unit, 199)
		wantRead(t, full+x.leaf+"a")
		wantRead(t, full+x.unit+"a")
		wantError(t, full+x.unit+x.leaf, api.ErrDepth, 200)
		wantError(t, full+x.unit+"a<!-- -->"+x.leaf, api.ErrDepth, 202)
	}
	full := strings.Repeat("<div>", 199)
	wantRead(t, full+"<p><p><hr><p>")
	wantRead(t, full+"<b></b><b></b><br>")
	wantRead(t, full+"<div></div><div>")
	wantError(t, full+"<li><li><p>", api.ErrDepth, 201)
	wantError(t, full+"<p><br>", api.ErrDepth, 200)
	wantError(t, full+"<div>"+"<div>", api.ErrDepth, 200)
	wantError(t, "<a>"+strings.Repeat("<b>", 199)+"<a>", api.ErrNest, 200)
	wantError(t, strings.Repeat("<b>", 200)+"<b/>", api.ErrNest, 200)
	wantError(t, strings.Repeat("<b>", 200)+"<table>", api.ErrElement, 200)
	wantError(t, "<p>"+strings.Repeat("<b>", 199)+"<div>", api.ErrNest, 200)
}

// must tells the tree of a document that has one.
func must(t *testing.T, s string) api.Tree {
	t.Helper()
	u, e, _ := Parse([]byte(s))
	if e != api.OK {
		t.Fatalf("%.40q: %d", s, e)
	}
	return u
}

// wantRead holds a document that has a tree against the second account.
func wantRead(t *testing.T, s string) {
	t.Helper()
	must(t, s)
	checkText(t, s)
}

func TestNodes(t *testing.T) {
	if api.MaxNodes != 16384 {
		t.Fatal(api.MaxNodes)
	}
	full := strings.Repeat("<br>", 16382)
	if u := must(t, full+"<br>"); len(u) != 16384 || Right(u) != api.OK {
		t.Errorf("%d nodes, %d", len(u), Right(u))
	}
	if u := must(t, full+"a"); len(u) != 16384 || Right(u) != api.OK {
		t.Errorf("%d nodes, %d", len(u), Right(u))
	}
	wantError(t, full+"<br><br>", api.ErrLimit, 16383)
	wantError(t, full+"abc<b>", api.ErrLimit, 16383)
	var l []token.Token
	for range 16383 {
		l = append(l, start("br"))
	}
	check(t, append(slices.Clip(l), text(""), end("p")))
	check(t, append(slices.Clip(l), token.Token{Kind: token.Comment}, start("br")))
	check(t, append(slices.Clip(l), text(""), text("a"), start("table")))
	check(t, append(slices.Clip(l[:16382]), text("a"), text("b"), text("c")))
	check(t, append(slices.Clip(l[:16382]), text("a"), text("b"), start("b")))
	check(t, append(slices.Clip(l[:16382]), start("b"), end("b"), start("b/")))
	check(t, append(slices.Clip(l[:16382]), start("p"), start("p")))
	check(t, append(slices.Clip(l[:16382]), start("p"), end("b")))
}

func TestManyPartsOfOneText(t *testing.T) {
	var l []token.Token
	for range 1 << 17 {
		l = append(l, text("ab"), token.Token{Kind: token.Comment})
	}
	if u, e, _ := Build(l); e != api.OK || len(u) != 2 || u[1].Data != strings.Repeat("ab", 1<<17) {
		t.Errorf("%d nodes, %d", len(u), e)
	}
}

// P5.3: whose error it is

func TestErrorsOfTheLayersBelow(t *testing.T) {
	wantError(t, strings.Repeat("a", 65537), api.ErrLimit, 0)
	wantError(t, "<table>"+strings.Repeat("a", 65536), api.ErrLimit, 0)
	wantError(t, strings.Repeat("\xFF", 21846), api.ErrLimit, 0) // of token: its text has 65538 bytes
	wantError(t, "ab\x00", api.ErrNull, 2)
	wantError(t, "ab<p", api.ErrTag, 2)
	wantError(t, "<table><p a=>", api.ErrAttr, 7)
	wantError(t, "</p>\xFF<?", api.ErrMark, 7)
	wantError(t, "<b>\r\n<!x>", api.ErrMark, 4)
	wantError(t, "<i><p a a>", api.ErrAttr, 3)
	for _, b := range [][]byte{nil, {}, []byte("<p>")[:0]} {
		if u, e, at := Parse(b); show(u) != "()" || e != api.OK || at != 0 || len(u) != 1 {
			t.Errorf("%s, %d at %d", show(u), e, at)
		}
	}
}

// P5.2, P5.6 as a whole, held against the second account

func TestNodesOfATree(t *testing.T) {
	u := must(t, "<!doctype html>x<ul id=a><li>b<br>c</ul>d")
	want := api.Tree{
		{Kind: api.Document, Up: -1, Kids: []int{1, 2, 7}},
		{Kind: api.Text, Data: "x"},
		{Kind: api.Element, Name: "ul", Attrs: []api.Attr{{Name: "id", Value: "a"}}, Kids: []int{3}},
		{Kind: api.Element, Name: "li", Up: 2, Kids: []int{4, 5, 6}},
		{Kind: api.Text, Data: "b", Up: 3},
		{Kind: api.Element, Name: "br", Up: 3},
		{Kind: api.Text, Data: "c", Up: 3},
		{Kind: api.Text, Data: "d"},
	}
	if !same(u, want) {
		t.Errorf("%v, want %v", u, want)
	}
}

// same tells whether two trees have the same nodes.
func same(a, b api.Tree) bool {
	return slices.EqualFunc(a, b, func(x, y api.Node) bool {
		return x.Kind == y.Kind && x.Name == y.Name && slices.Equal(x.Attrs, y.Attrs) && x.Data == y.Data && x.Up == y.Up && slices.Equal(x.Kids, y.Kids)
	})
}

// signs are tokens of all kinds; an element or two of each kind.
func signs() []token.Token {
	l := []token.Token{text("x"), text(""), {Kind: token.Comment, Data: "y"}, {Kind: token.Doctype}, {Kind: 7}, {Kind: token.Start, Name: "b", Self: true}, {Kind: token.Start, Name: "hr", Self: true}, start("table"), start("br"), end("br")}
	for _, name := range []string{"div", "ul", "p", "li", "h1", "h2", "b", "a"} {
		l = append(l, start(name), end(name))
	}
	return l
}

func TestAllShortRowsOfTokens(t *testing.T) {
	list := signs()
	for _, w := range list {
		check(t, []token.Token{w})
		for _, x := range list {
			check(t, []token.Token{w, x})
			for _, y := range list {
				check(t, []token.Token{w, x, y})
			}
		}
	}
}

func TestAllShortRowsOfTags(t *testing.T) {
	names := []string{"div", "ul", "p", "li", "h1", "b", "a", "hr"}
	var goOn func(l []token.Token, n int)
	goOn = func(l []token.Token, n int) {
		check(t, l)
		if _, e, _ := Build(l); n == 0 || e != api.OK {
			return
		}
		for _, name := range names {
			goOn(append(slices.Clip(l), start(name)), n-1)
			goOn(append(slices.Clip(l), end(name)), n-1)
		}
	}
	goOn(nil, 5)
}

// rows tells rows of tokens most of which go together: the same ones at each run.
func rows(hand func([]token.Token)) {
	names, _ := chart()
	source := rand.New(rand.NewSource(5))
	for range 20000 {
		var l []token.Token
		var open []string
		for range source.Intn(40) {
			switch n := source.Intn(10); {
			case n < 4:
				name := names[source.Intn(len(names))]
				l = append(l, start(name))
				if chartedKinds[name] < 7 {
					open = append(open, name)
				}
			case n < 8 && len(open) > 0:
				l = append(l, end(open[len(open)-1]))
				open = open[:len(open)-1]
			case n == 8:
				l = append(l, signs()[source.Intn(10)])
			default:
				l = append(l, text("ab"[source.Intn(2):]))
			}
			if _, e, _ := Build(l); e != api.OK && source.Intn(4) > 0 {
				l = l[:len(l)-1]
			}
		}
		hand(l)
	}
}

func TestRowsOfTokens(t *testing.T) {
	rows(func(l []token.Token) { check(t, l) })
}

func TestWhatIsParsedIsRight(t *testing.T) {
	parts := []string{"<p>", "</p>", "<ul>", "</ul>", "<li>", "</li>", "<div id=a>", "</div>", "<H1 Class='&#0; &amp;'>", "</h1>", "<b a=1 B=\"\xFF\">", "</b>", "<a>", "</a>", "<br/>", "<hr>", "a", "&#xD800;", "\xFF", "\r\n", "&lt", "<!-- -->", "\u05D0", "<bdi>", "</bdi>"}
	source := rand.New(rand.NewSource(55))
	whole := 0
	for range 100000 {
		s := ""
		for range source.Intn(12) {
			part := parts[source.Intn(len(parts))]
			if _, e, _ := Parse([]byte(s + part)); e == api.OK {
				s += part
			}
		}
		u, e, at := Parse([]byte(s))
		if e != api.OK || at != 0 || !wantRight(u) || Right(u) != api.OK {
			t.Fatalf("Parse(%q) = %s, %d at %d: right %d", s, show(u), e, at, Right(u))
		}
		if strings.Contains(s, "><") {
			whole++
		}
	}
	if whole < 50000 {
		t.Errorf("only %d documents of some length", whole)
	}
}

func TestJumblesOfBytes(t *testing.T) {
	const signs = "<<<<>>>>//ppbulihr1 a=\"'&;#x\xFF\xD7\x90\r\n-!"
	source := rand.New(rand.NewSource(555))
	for range 50000 {
		b := make([]byte, source.Intn(30))
		for i := range b {
			b[i] = signs[source.Intn(len(signs))]
		}
		if u, e, at := Parse(b); e == api.OK && (at != 0 || !wantRight(u) || Right(u) != api.OK) || e != api.OK && len(u) != 0 {
			t.Fatalf("Parse(%q) = %s, %d at %d", b, show(u), e, at)
		}
	}
}

// P5.5

// textsOf tells all texts of a tree.
func textsOf(u api.Tree) []string {
	var out []string
	for _, n := range u {
		out = append(out, n.Name, n.Data)
		for _, a := range n.Attrs {
			out = append(out, a.Name, a.Value)
		}
	}
	return slices.DeleteFunc(out, func(s string) bool { return len(s) < 2 }) // the run time has one memory for all short ones
}

// overlap tells whether two texts share memory.
func overlap(a, b string) bool {
	x, y := uintptr(unsafe.Pointer(unsafe.StringData(a))), uintptr(unsafe.Pointer(unsafe.StringData(b)))
	return x < y+uintptr(len(b)) && y < x+uintptr(len(a))
}

// sample is a row of tokens of which several share their texts and attributes.
func sample() []token.Token {
	attrs := []api.Attr{{Name: "class", Value: "class"}, {Name: "id", Value: "xyz"}, {Name: "title", Value: "behind"}}[:2]
	return []token.Token{start("div", attrs...), start("em", attrs...), text("text"), end("em"), start("em", attrs...), text("text"), text("class"), end("em"), start("ul"), start("li"), text("text")}
}

func TestTokensAreOnlyRead(t *testing.T) {
	whole := append(sample(), text("behind"), start("table"))
	l := whole[:len(whole)-2]
	u, e, _ := Build(l)
	before := show(u)
	if e != api.OK || before != `((div "class"="class" "id"="xyz"(em "class"="class" "id"="xyz"'text)(em "class"="class" "id"="xyz"'textclass)(ul(li'text))))` {
		t.Fatalf("%s, %d", before, e)
	}
	attrs := whole[0].Attrs[:3]
	if show(api.Tree{{Attrs: attrs}}) != `( "class"="class" "id"="xyz" "title"="behind")` || whole[11].Data != "behind" || whole[12].Name != "table" || !slices.EqualFunc(l, sample(), func(a, b token.Token) bool {
		return a.Kind == b.Kind && a.Name == b.Name && a.Data == b.Data && slices.Equal(a.Attrs, b.Attrs)
	}) {
		t.Errorf("%v", whole)
	}
	clear(attrs)
	clear(whole)
	if show(u) != before {
		t.Errorf("%s became %s", before, show(u))
	}
	bytes := []byte("<p id=xyz>text")
	u, _, _ = Parse(bytes)
	clear(bytes)
	if show(u) != `((p "id"="xyz"'text))` {
		t.Errorf("%s", show(u))
	}
}

func TestTreesAreNewMemory(t *testing.T) {
	l := sample()
	first, _, _ := Build(l)
	second, _, _ := Build(l)
	before := show(second)
	var given []string
	for _, x := range l {
		given = append(given, x.Name, x.Data)
	}
	given = append(given, "class", "xyz")
	for i, x := range textsOf(first) {
		for j, y := range textsOf(first) {
			if i != j && overlap(x, y) {
				t.Errorf("%q and %q share memory", x, y)
			}
		}
		for _, y := range slices.Concat(textsOf(second), given) {
			if len(y) > 1 && overlap(x, y) {
				t.Errorf("%q shares memory with what was given, or with another answer", x)
			}
		}
	}
	for _, n := range first {
		clear(n.Attrs[:cap(n.Attrs)])
		clear(n.Kids[:cap(n.Kids)])
	}
	clear(first[:cap(first)])
	if show(second) != before {
		t.Errorf("%s became %s", before, show(second))
	}
}

func TestListsOfATreeAreApart(t *testing.T) {
	u, _, _ := Build(sample())
	for i := range u {
		rest := slices.Clone(u)
		rest[i].Kids, rest[i].Attrs = nil, nil
		before := textsAndKids(rest)
		_, _ = append(u[i].Kids, 99), append(u[i].Attrs, api.Attr{Name: "more"})
		clear(u[i].Kids)
		clear(u[i].Attrs)
		if after := textsAndKids(rest); after != before {
			t.Errorf("%s became %s", before, after)
		}
	}
}

func textsAndKids(u api.Tree) string {
	s := ""
	for _, n := range u {
		s += n.Name + n.Data + attrsOf(n.Attrs)
		for _, k := range n.Kids {
			s += " " + strconv.Itoa(k)
		}
	}
	return s
}
