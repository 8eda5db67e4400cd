package cssparse

import (
	"math/rand"
	"slices"
	"strings"
	"testing"
	"unsafe"
)

// All three calls against the second account

func TestAllShortRowsOfParts(t *testing.T) {
	list := parts()
	for _, x := range list {
		for _, y := range list {
			hold(t, x+y)
			hold(t, "a{"+x+y+"}b{c:d}")
			hold(t, "a:"+x+y)
			hold(t, "a"+x+y+"{b:c}d{}")
			hold(t, "["+x+"a"+y+"]")
		}
	}
}

func TestAllShortTexts(t *testing.T) {
	for _, x := range []struct {
		signs string
		most  int
	}{
		{"a,> *", 6}, {"a.#[]=", 5}, {"a{}();", 5}, {"a:{}@;", 5}, {"a:!) (", 5}, {"[a= '\n]", 5},
	} {
		allTexts(x.signs, x.most, "", func(s string) { hold(t, s) })
	}
}

// allTexts goes over all texts of some signs, up to a length.
func allTexts(signs string, most int, s string, yield func(string)) {
	yield(s)
	for i := range signs {
		if most > 0 {
			allTexts(signs, most-1, s+signs[i:i+1], yield)
		}
	}
}

func TestJumbles(t *testing.T) {
	source := rand.New(rand.NewSource(8)) // the same ones at each run
	for range 30000 {
		s := jumble(source, 14)
		hold(t, s)
		hold(t, "a{"+s+"}b{c:d}")
	}
}

func TestBytesAtRandom(t *testing.T) {
	source := rand.New(rand.NewSource(88))
	for range 20000 {
		b := make([]byte, source.Intn(24))
		for i := range b {
			b[i] = byte(source.Intn(256))
		}
		hold(t, string(b))
		hold(t, "a{b:"+string(b))
	}
}

// P8.4

// someOf tells some of a list, one behind the other.
func someOf(source *rand.Rand, list []string) []string {
	var out []string
	for range source.Intn(9) {
		out = append(out, list[source.Intn(len(list))])
	}
	return out
}

func TestRulesStandAlone(t *testing.T) {
	list := []string{
		"a{}", "a{b:c}", "A > b , .c{D:e!important;f}", "a{b:(;);c:{d}}", "a..b{c:d}", "{e:f}", ",{}", ";x{y:z}", "}x{y:z}", ")]{}", "a(b;c){d:e}", "a[b{c}]{d:e}", "a:hover{b:c}", "@m;", "@m{a{b:c}}", "@m (;) x{}", "@m } ;", "<!--", "-->", " ", "/*{*/", "a{)}", "a{b:'c\n}", "a <!-- {}", "a{@m}", "a{@m{}b:c}", "a @m{b:c}", "1{}", "\xFF{}",
	}
	source := rand.New(rand.NewSource(888))
	for range 20000 {
		one := someOf(source, list)
		var want []string
		for _, x := range one {
			l, _ := Parse(x)
			for _, r := range l {
				want = append(want, showRules([]Rule{r}))
			}
		}
		s := strings.Join(one, "")
		l, e := Parse(s)
		if got := showRules(l); got != strings.Join(want, " ") || e != 0 {
			t.Fatalf("Parse(%q) = %s, %d; one by one the rules are %s", s, got, e, strings.Join(want, " "))
		}
	}
}

func TestDeclarationsStandAlone(t *testing.T) {
	list := []string{ // none with a } that closes nothing: it would end the rule in which they are put
		"a:b", "A:B c!important", "a:(;)", "a:{b;c}", "a:{b}c:d", "a", "a:", "a b:c", ":a", "1:b", "a:!important", "a:)", "a:b]", "a:]", "a:(b))", "a:'b\n", "a:('b\n)", "@m", "@m a:b", "@m (;)", "a{b:c}", "a{b:c}d:e", "", " ", "/*;*/", "]", ")", "([)])", "-->", "\xFF:\xFF",
	}
	source := rand.New(rand.NewSource(8888))
	for range 20000 {
		one := someOf(source, list)
		var want []string
		for _, x := range one {
			l, _ := Style(x)
			for _, d := range l {
				want = append(want, showDecls([]Decl{d}))
			}
		}
		s := strings.Join(one, ";")
		l, e := Style(s)
		if got := showDecls(l); got != strings.Join(want, "; ") || e != 0 {
			t.Fatalf("Style(%q) = %s, %d; one by one the declarations are %s", s, got, e, strings.Join(want, "; "))
		}
		rules, e := Parse("x{" + s + "}")
		if got := showRules(rules); got != `"x"{`+strings.Join(want, "; ")+"}" || e != 0 {
			t.Fatalf("Parse of a rule of %q = %s, %d", s, got, e)
		}
	}
}

// A selector that is wrong makes its own row wrong, wherever it stands, and no other one.
func TestARowIsWrongAsAWhole(t *testing.T) {
	for _, wrong := range []string{"", "1", ".", "a>", ">a", "#1", "a*", "[a", "a:b", "()", "a. b", "-->"} {
		for _, s := range []string{wrong + ",a", "a," + wrong, "a," + wrong + ",b"} {
			holdSelect(t, s, "")
			if strings.Contains(wrong, "[") {
				continue // it is not closed, and takes the block
			}
			holdParse(t, "p{}"+strings.TrimPrefix(s, "-->")+",1{c:d}q{}", `"p"{} "q"{}`)
		}
	}
}

// P8.3

// span is the memory of a text or a list; the pointer keeps it from being used for another one.
type span struct {
	from unsafe.Pointer
	size uintptr
}

func textSpan(s string) span {
	return span{unsafe.Pointer(unsafe.StringData(s)), uintptr(len(s))}
}

func listSpan[T any](l []T) span {
	var one T
	return span{unsafe.Pointer(unsafe.SliceData(l)), uintptr(cap(l)) * unsafe.Sizeof(one)}
}

func (a span) shares(b span) bool {
	x, y := uintptr(a.from), uintptr(b.from)
	return a.size > 0 && b.size > 0 && x < y+b.size && y < x+a.size
}

// rowSpans tells all memory of selectors (no text is of one byte: the language keeps these once for all).
func rowSpans(row []Selector) []span {
	out := []span{listSpan(row)}
	for _, sel := range row {
		out = append(out, listSpan(sel))
		for _, c := range sel {
			out = append(out, textSpan(c.Type), listSpan(c.IDs), listSpan(c.Classes), listSpan(c.Tests))
			for _, x := range slices.Concat(c.IDs, c.Classes) {
				out = append(out, textSpan(x))
			}
			for _, x := range c.Tests {
				out = append(out, textSpan(x.Name), textSpan(x.Value))
			}
		}
	}
	return out
}

func declSpans(l []Decl) []span {
	out := []span{listSpan(l)}
	for _, d := range l {
		out = append(out, textSpan(d.Name), textSpan(d.Value))
	}
	return out
}

// holdApart holds memory against being shared.
func holdApart(t *testing.T, all []span) {
	t.Helper()
	for i, x := range all {
		for _, y := range all[:i] {
			if x.shares(y) {
				t.Fatalf("%v and %v share their memory", x, y)
			}
		}
	}
}

func TestAnswersAreNewMemory(t *testing.T) {
	row := strings.TrimSuffix(strings.Repeat("abc#def#def.ghi.ghi[jkl=mno][jkl='mno'] > abc + .DEF,", 6), ",")
	style := strings.Repeat("name:value;NAME:value !important;name:(value);", 6)
	sheet := strings.Repeat(row+"{"+style+"}", 2)
	all := []span{textSpan(row), textSpan(style), textSpan(sheet)}
	for range 2 {
		selectors, ok := Select(row)
		decls, e := Style(style)
		rules, e2 := Parse(sheet)
		if !ok || e != 0 || e2 != 0 || len(selectors) != 6 || len(decls) != 18 || len(rules) != 2 {
			t.Fatal(ok, e, e2, len(selectors), len(decls), len(rules))
		}
		all = append(append(all, rowSpans(selectors)...), declSpans(decls)...)
		all = append(all, listSpan(rules))
		for _, r := range rules {
			all = append(append(all, rowSpans(r.Selectors)...), declSpans(r.Decls)...)
		}
	}
	holdApart(t, all)
}

func TestAnswersHangOnTheArgumentAlone(t *testing.T) {
	done := make(chan string)
	for range 8 {
		go func() {
			var b strings.Builder
			source := rand.New(rand.NewSource(80))
			for range 2000 {
				s := jumble(source, 10)
				rules, _ := Parse(s)
				decls, _ := Style(s)
				selectors, _ := Select(s)
				b.WriteString(showRules(rules) + "/" + showDecls(decls) + "/" + showRow(selectors) + "\n")
			}
			done <- b.String()
		}()
	}
	first := <-done
	for range 7 {
		if <-done != first {
			t.Error("an answer differs")
		}
	}
}
