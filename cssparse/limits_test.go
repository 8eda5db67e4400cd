package cssparse

import (
	"fmt"
	"strings"
	"testing"

	"selvedge/api"
)

// P8.1 and P8.2: the limits

// row tells a text many times, with another between two.
func row(n int, one, between string) string {
	return strings.TrimSuffix(strings.Repeat(one+between, n), between)
}

// holdError holds Parse, and the second account, against an error.
func holdError(t *testing.T, s string, want api.Errno) {
	t.Helper()
	if l, e := Parse(s); e != want || e != api.OK && l != nil {
		t.Errorf("Parse(%s) = %d rules, %d, want %d", brief(s), len(l), e, want)
	}
	hold(t, s)
}

func holdStyleError(t *testing.T, s string, want api.Errno) {
	t.Helper()
	if l, e := Style(s); e != want || e != api.OK && l != nil {
		t.Errorf("Style(%s) = %d declarations, %d, want %d", brief(s), len(l), e, want)
	}
	hold(t, s)
}

func TestMaxBytes(t *testing.T) {
	for _, x := range []string{" ", "\u05D0", "\xFF", "a", "a{}", "(", "a,", "a:b;", "/*", "\r\n", "@"} {
		s := strings.Repeat(x, 65536/len(x))
		s += strings.Repeat(" ", 65536-len(s))
		hold(t, s)
		for _, more := range []string{" ", "}", "\xFF", " \u05D0 "} {
			hold(t, s+more)
			holdError(t, s+more, 3)
			holdStyleError(t, s+more, 3)
			if l, ok := Select(s + more); ok || l != nil {
				t.Errorf("Select(%s) of more than 65536 bytes = %d selectors, %v", brief(s), len(l), ok)
			}
		}
	}
	blanks := strings.Repeat(" ", 65536-6)
	holdParse(t, blanks+"a{b:c}", `"a"{"b":"c"}`)
	holdStyle(t, blanks+"aa:bcd", `"aa":"bcd"`)
	holdSelect(t, blanks+"abcdef", `"abcdef"`)
	holdError(t, strings.Repeat("a{}", 300)+blanks, 3)
	holdError(t, blanks+" a{b:c}", 3)
	holdStyleError(t, strings.Repeat("a:b;", 300)+blanks, 3)
	holdSelect(t, blanks+" abcdef", "")
}

func TestMaxRulesOfRules(t *testing.T) {
	for _, one := range []string{"a{}", "a{b:c}", "a,b{c:d;e:f} ", "<!--a>b{"} {
		if strings.HasSuffix(one, "{") {
			one += "}-->"
		}
		holdError(t, strings.Repeat(one, 255), 0)
		holdError(t, strings.Repeat(one, 256), 0)
		holdError(t, strings.Repeat(one, 257), 80)
		holdError(t, strings.Repeat(one, 256)+"a", 0)
		holdError(t, strings.Repeat(one, 256)+"a{", 80)
	}
	for _, dropped := range []string{"1{}", "{}", "@m;", "@m{a{}}", "a,{b:c}", "a:b{}", ";{}"} {
		s := strings.Repeat("a{}"+dropped, 256)
		holdError(t, s, 0)
		holdError(t, s+strings.Repeat(dropped, 300), 0)
		holdError(t, strings.Repeat(dropped, 300)+s, 0)
		holdError(t, s+"a{}", 80)
		holdError(t, strings.Repeat(dropped, 300)+s+"a{}", 80)
	}
}

func TestMaxRulesOfSelectors(t *testing.T) {
	for _, one := range []string{"a", "*", ".b", "a > b"} {
		holdError(t, row(256, one, ",")+"{}", 0)
		holdError(t, row(257, one, ",")+"{}", 80)
		holdError(t, "a{}"+row(257, one, ",")+"{}b{}", 80)
		holdError(t, row(257, one, ",")+",{}b{}", 0)
		holdError(t, row(257, one, ",")+",1{}b{}", 0)
		holdError(t, row(257, one, ","), 0)
		holdError(t, "@m "+row(257, one, ",")+"{}", 0)
		holdError(t, row(256, one, ",")+"{}"+row(256, one, ",")+"{}", 0)
	}
}

func TestMaxRulesOfCompounds(t *testing.T) {
	for _, join := range []string{" ", ">", "+", " > "} {
		long, longer := row(256, "a", join), row(257, "a", join)
		holdError(t, long+"{}", 0)
		holdError(t, longer+"{}", 80)
		holdError(t, long+","+long+"{}"+long+"{}", 0)
		holdError(t, long+","+longer+"{}", 80)
		holdError(t, longer+",a{}", 80)
		holdError(t, "a,"+longer+",a{}", 80)
		holdError(t, "a{}"+longer+"{}b{}", 80)
		holdError(t, longer+",{}b{}", 0)
		holdError(t, longer+" #1{}b{}", 0)
		holdError(t, longer, 0)
	}
	holdError(t, strings.Repeat(".a", 300)+strings.Repeat("#b", 300)+strings.Repeat("[c]", 300)+"{}", 0)
}

func TestMaxRulesOfDeclarations(t *testing.T) {
	long, longer := row(256, "a:b", ";"), row(257, "a:b", ";")
	for _, x := range []struct {
		s    string
		want api.Errno
	}{
		{long, 0}, {longer, 80}, {longer + ";", 80}, {long + ";", 0}, {long + ";c", 0}, {long + ";c:", 0}, {long + ";c:'d\n", 0}, {long + ";@m c:d;", 0}, {long + ";c:d", 80},
		{row(256, "a:b;x;:y;z:", ";"), 0}, {row(256, "x;a:b", ";"), 0}, {row(257, "x;a:b", ";"), 80}, {row(400, "x", ";"), 0}, {row(257, "a:b!important", ";"), 80},
	} {
		holdStyleError(t, x.s, x.want)
		holdError(t, "x{"+x.s+"}", x.want)
		holdError(t, "x{"+x.s, x.want)
		holdError(t, "x{}x{"+x.s+"}x{}", x.want)
		holdError(t, "1{"+x.s+"}x{}", 0)
		holdError(t, "@m{x{"+x.s+"}}x{}", 0)
	}
	holdError(t, "x{"+long+"}y{"+long+"}", 0)
}

// No limit of rules is told of Select.
func TestSelectIsNotLimitedByRules(t *testing.T) {
	for _, between := range []string{",", " ", ">"} {
		s := row(1000, "a", between)
		l, ok := Select(s)
		n := 0
		for _, sel := range l {
			n += len(sel)
		}
		if !ok || n != 1000 {
			t.Errorf("Select(%s) = %d compounds, %v", brief(s), n, ok)
		}
		hold(t, s)
	}
}

// However deep pieces nest, and however many there are, the answer comes.
func TestManyPieces(t *testing.T) {
	for _, x := range []string{"(", "[", "{", "f(", "(a;", "a{", "a:{", "a{b:(", ")", "}", "]", "[a", "@m{", "@m(", "a:{}", "{}", "a ", "a>", "!", "a:!important;", "\"\n", "()", "{;}", "a:b)"} {
		s := strings.Repeat(x, 65536/len(x))
		hold(t, s)
		for _, ahead := range []string{"a{", "a:", "@m", "a{b:"} {
			hold(t, ahead+s[:6000])
		}
	}
	half := 65536/2 - 4
	deep := strings.Repeat("(", half) + strings.Repeat(")", half)
	holdStyle(t, "a:"+deep+";b:c", fmt.Sprintf(`"a":"%s"; "b":"c"`, deep))
	holdParse(t, "a{b:"+deep+"}", fmt.Sprintf(`"a"{"b":"%s"}`, deep))
	blocks := strings.Repeat("{", half) + strings.Repeat("}", half)
	holdParse(t, "a"+blocks+"b{}", `"a"{} "b"{}`)
}
