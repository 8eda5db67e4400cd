package match

import (
	"testing"

	"selvedge/api"
	"selvedge/cssparse"
)

// P9.1: a compound that is for a node

// one is a selector of one compound.
func one(c cssparse.Compound) cssparse.Selector { return cssparse.Selector{c} }

// holdOne holds a compound for a node that stands alone.
func holdOne(t *testing.T, n api.Node, c cssparse.Compound, want bool) {
	t.Helper()
	nodes := ""
	if want {
		nodes = "0"
	}
	holdNodes(t, api.Tree{n}, one(c), nodes)
}

func TestTypes(t *testing.T) {
	for _, x := range []struct {
		name, kind string
		want       bool
	}{
		{"div", "div", true}, {"div", "", true}, {"", "", true}, {"div", "p", false}, {"div", "di", false}, {"div", "divs", false}, {"div", "DIV", false}, {"DIV", "div", false}, {"DIV", "DIV", true}, {"", "div", false},
		{"a b", "a b", true}, {"\u05D0", "\u05D0", true}, {"\xFF", "\xFF", true}, {"\xFF", "\uFFFD", false}, {"*", "*", true}, {"div", "*", false},
	} {
		holdOne(t, element(-1, x.name), cssparse.Compound{Type: x.kind}, x.want)
	}
}

func TestOnlyElementsAreAsked(t *testing.T) {
	for _, kind := range []uint8{0, 2, 3, 4, 255} {
		n := element(-1, "div", "id=x", "class=a b", "dir=rtl")
		n.Kind = kind
		for _, s := range []string{"*", "div", "#x", ".a", "[dir]", "[dir=rtl]", "div#x.a.b[dir=rtl]"} {
			holdNodes(t, api.Tree{n}, selector(t, s), "")
			n.Kind = 1
			holdNodes(t, api.Tree{n}, selector(t, s), "0")
			n.Kind = kind
		}
	}
}

func TestCompoundOfNothingIsForAllElements(t *testing.T) {
	l := api.Tree{root(), element(0, "a"), element(1, ""), text(1), element(0, "b", "id=x", "class=y"), {Kind: 9, Name: "c"}, element(7, "d")}
	holdNodes(t, l, one(cssparse.Compound{}), "1 2 4 6")
	holdNodes(t, l, one(cssparse.Compound{IDs: []string{}, Classes: []string{}, Tests: []cssparse.Test{}}), "1 2 4 6")
}

func TestIDs(t *testing.T) {
	for _, x := range []struct {
		attrs []string
		ids   []string
		want  bool
	}{
		{[]string{"id=x"}, []string{"x"}, true}, {[]string{"id=x"}, []string{"y"}, false}, {[]string{"id=x"}, []string{"X"}, false}, {[]string{"id=xy"}, []string{"x"}, false},
		{nil, []string{"x"}, false}, {nil, []string{""}, false}, {[]string{"class=x"}, []string{"x"}, false}, {[]string{"ID=x"}, []string{"x"}, false},
		{[]string{"id="}, []string{""}, true}, {[]string{"id=x"}, []string{""}, false}, {[]string{"id="}, []string{"x"}, false},
		{[]string{"id=x"}, []string{"x", "x"}, true}, {[]string{"id=x"}, []string{"x", "y"}, false}, {[]string{"id=x"}, []string{"y", "x"}, false}, {[]string{"id=x y"}, []string{"x", "y"}, false},
		{[]string{"id=x y"}, []string{"x y"}, true}, {[]string{"id= x"}, []string{"x"}, false}, {[]string{"id= x"}, []string{" x"}, true}, {[]string{"id=\t"}, []string{"\t"}, true}, {[]string{"id=\t"}, []string{""}, false},
		{[]string{"id=x", "id=y"}, []string{"x"}, true}, {[]string{"id=x", "id=y"}, []string{"y"}, false}, {[]string{"id=x", "id=y"}, []string{"x", "y"}, false}, {[]string{"c=d", "id=x"}, []string{"x"}, true},
		{[]string{"id=\xFF"}, []string{"\xFF"}, true}, {[]string{"id=\xFF"}, []string{"\uFFFD"}, false},
	} {
		holdOne(t, element(-1, "a", x.attrs...), cssparse.Compound{IDs: x.ids}, x.want)
	}
}

func TestClasses(t *testing.T) {
	for _, x := range []struct {
		value   string
		classes []string
		want    bool
	}{
		{"x", []string{"x"}, true}, {"x y", []string{"x"}, true}, {"x y", []string{"y"}, true}, {"x y", []string{"y", "x"}, true}, {"x y", []string{"x", "x"}, true}, {"x y z", []string{"y"}, true},
		{"x y", []string{"x", "y", "z"}, false}, {"x y", []string{"z", "x", "y"}, false}, {"x y", []string{"X"}, false}, {"xy", []string{"x"}, false}, {"xy", []string{"y"}, false}, {"x", []string{"xy"}, false}, {"xyz", []string{"y"}, false},
		{"x x", []string{"x"}, true}, {"xx x", []string{"x"}, true}, {"x-y", []string{"x"}, false}, {"x,y", []string{"x"}, false},
		{"", []string{""}, false}, {"x", []string{""}, false}, {" ", []string{""}, false}, {"x  y", []string{""}, false}, {" x ", []string{""}, false}, {"x", []string{"x", ""}, false},
		{"x y", []string{"x y"}, false}, {"x y", []string{" "}, false}, {" ", []string{" "}, false}, {"x ", []string{"x "}, false}, {" x", []string{" x"}, false}, {"x\ty", []string{"x\ty"}, false},
		{"\xFF x", []string{"\xFF"}, true}, {"\xFF x", []string{"x"}, true}, {"\xFF", []string{"\uFFFD"}, false}, {"\u05D0 \u05D1", []string{"\u05D1"}, true}, {"\u05D0\u05D1", []string{"\u05D1"}, false},
	} {
		holdOne(t, element(-1, "a", "class="+x.value), cssparse.Compound{Classes: x.classes}, x.want)
	}
}

func TestClassesOfAttributes(t *testing.T) {
	for _, x := range []struct {
		attrs []string
		class string
		want  bool
	}{
		{nil, "x", false}, {nil, "", false}, {[]string{"id=x"}, "x", false}, {[]string{"CLASS=x"}, "x", false}, {[]string{"class=x", "class=y"}, "x", true}, {[]string{"class=x", "class=y"}, "y", false}, {[]string{"class=", "class=y"}, "y", false}, {[]string{"c=d", "class=y"}, "y", true},
	} {
		holdOne(t, element(-1, "a", x.attrs...), cssparse.Compound{Classes: []string{x.class}}, x.want)
	}
}

// Words are parted by white space of HTML, wherever it stands, and by nothing else.
func TestWordsOfClasses(t *testing.T) {
	for b := range 256 {
		s := string([]byte{byte(b)})
		white := b == 9 || b == 10 || b == 12 || b == 13 || b == 32
		for _, value := range []string{"x" + s + "y", s + "x", "x" + s, s + s + "x" + s + s + "y" + s, "y" + s + "x", "y" + s + "x" + s + "z", "y " + s + "x"} {
			holdOne(t, element(-1, "a", "class="+value), cssparse.Compound{Classes: []string{"x"}}, white)
		}
		for _, value := range []string{"", s, s + s, "y" + s + "z"} {
			holdOne(t, element(-1, "a", "class="+value), cssparse.Compound{Classes: []string{""}}, false)
			holdOne(t, element(-1, "a", "class="+value), cssparse.Compound{Classes: []string{s}}, !white && (value == s))
		}
	}
	for _, r := range []rune{0x85, 0xA0, 0x1680, 0x2000, 0x2028, 0x2029, 0x202F, 0x3000, 0xFEFF, 0x109, 0x120, 0x10A0, 0x200D, 0x2009, 0x10FFFF} {
		holdOne(t, element(-1, "a", "class=x"+string(r)+"y"), cssparse.Compound{Classes: []string{"x"}}, false)
		holdOne(t, element(-1, "a", "class=x"+string(r)+"y"), cssparse.Compound{Classes: []string{"x" + string(r) + "y"}}, true)
	}
	for _, between := range []string{"\r\n", "\t \f", "\n\n\n", " \r"} {
		for _, class := range []string{"x", "y", "z"} {
			holdOne(t, element(-1, "a", "class="+between+"x"+between+"y"+between+"z"+between), cssparse.Compound{Classes: []string{class}}, true)
		}
	}
}

func TestTests(t *testing.T) {
	for _, x := range []struct {
		attrs []string
		test  cssparse.Test
		want  bool
	}{
		{[]string{"dir=rtl"}, cssparse.Test{Name: "dir"}, true}, {[]string{"dir="}, cssparse.Test{Name: "dir"}, true}, {nil, cssparse.Test{Name: "dir"}, false}, {[]string{"DIR=rtl"}, cssparse.Test{Name: "dir"}, false}, {[]string{"dirs=rtl"}, cssparse.Test{Name: "dir"}, false}, {[]string{"a=b", "dir=rtl"}, cssparse.Test{Name: "dir"}, true},
		{[]string{"dir=rtl"}, cssparse.Test{Name: "dir", Value: "rtl", Has: true}, true}, {[]string{"dir=rtl"}, cssparse.Test{Name: "dir", Value: "RTL", Has: true}, false}, {[]string{"dir=rtl"}, cssparse.Test{Name: "dir", Value: "rt", Has: true}, false}, {[]string{"dir=rtl x"}, cssparse.Test{Name: "dir", Value: "rtl", Has: true}, false}, {[]string{"dir= rtl"}, cssparse.Test{Name: "dir", Value: "rtl", Has: true}, false},
		{[]string{"dir=rtl"}, cssparse.Test{Name: "dir", Value: "ltr"}, true}, {nil, cssparse.Test{Name: "dir", Value: "ltr"}, false},
		{[]string{"dir="}, cssparse.Test{Name: "dir", Has: true}, true}, {[]string{"dir=rtl"}, cssparse.Test{Name: "dir", Has: true}, false}, {nil, cssparse.Test{Name: "dir", Has: true}, false}, {[]string{"dir= "}, cssparse.Test{Name: "dir", Has: true}, false},
		{[]string{"=x"}, cssparse.Test{}, true}, {nil, cssparse.Test{}, false}, {[]string{"dir=rtl"}, cssparse.Test{}, false}, {[]string{"=x"}, cssparse.Test{Value: "x", Has: true}, true}, {[]string{"="}, cssparse.Test{Has: true}, true}, {nil, cssparse.Test{Has: true}, false},
		{[]string{"dir=rtl", "dir=ltr"}, cssparse.Test{Name: "dir", Value: "rtl", Has: true}, true}, {[]string{"dir=rtl", "dir=ltr"}, cssparse.Test{Name: "dir", Value: "ltr", Has: true}, false},
		{[]string{"id=x"}, cssparse.Test{Name: "id", Value: "x", Has: true}, true}, {[]string{"class=x y"}, cssparse.Test{Name: "class", Value: "x", Has: true}, false}, {[]string{"class=x y"}, cssparse.Test{Name: "class", Value: "x y", Has: true}, true},
		{[]string{"a=\xFF"}, cssparse.Test{Name: "a", Value: "\uFFFD", Has: true}, false},
	} {
		holdOne(t, element(-1, "a", x.attrs...), cssparse.Compound{Tests: []cssparse.Test{x.test}}, x.want)
	}
}

// Each one that is asked must hold, and all that is asked of several kinds.
func TestAllThatIsAskedMustHold(t *testing.T) {
	l := api.Tree{element(-1, "p", "id=x", "class=a b", "dir=rtl", "lang=he")}
	for _, s := range []string{"p", "#x", "#x#x", ".a.b", ".b.a.b", "[dir][lang]", "[dir=rtl][lang=he]", "[lang=he][dir][id=x]", "p#x.a[dir]", "*#x.b[dir=rtl][lang=he].a"} {
		holdSelect(t, l, s, "0")
		for _, wrong := range []string{"#y", ".c", "[x]", "[dir=ltr]", "[lang='']"} {
			holdSelect(t, l, s+wrong, "")
			holdSelect(t, l, s+wrong+".a", "")
			holdSelect(t, l, wrong+"#x.a.b[dir=rtl]", "")
		}
	}
	holdSelect(t, l, "q#x.a[dir]", "")
}
