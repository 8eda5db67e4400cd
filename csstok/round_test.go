package csstok

import (
	"math/rand"
	"slices"
	"strings"
	"testing"
	"unsafe"
)

// P7.4, and P7.1 and P7.2 against the second account

func TestAllShortRowsOfParts(t *testing.T) {
	list := parts()
	for _, x := range list {
		for _, y := range list {
			hold(t, x+y)
			for _, z := range list {
				hold(t, x+y+z)
			}
		}
		hold(t, x)
	}
}

func TestAllShortTexts(t *testing.T) {
	for _, x := range []struct {
		signs string
		most  int
	}{
		{"\\1ag \n\"'-#(", 5}, {"-+.1e%", 5}, {"/* a1", 5}, {"-<!>a", 5}, {"@#-a1\\", 5},
	} {
		allTexts(x.signs, x.most, "", func(s string) { hold(t, s) })
	}
}

// allTexts goes over all texts of some signs, up to a length.
func allTexts(signs string, most int, s string, yield func(string)) {
	yield(s)
	for i := range signs {
		if most > 0 {
			allTexts(signs, most-1, s+signs[i:i+1], yield)
		}
	}
}

func TestJumbles(t *testing.T) {
	source := rand.New(rand.NewSource(7)) // the same ones at each run
	for range 100000 {
		hold(t, jumble(source, 14))
	}
}

func TestBytesAtRandom(t *testing.T) {
	source := rand.New(rand.NewSource(77))
	for range 20000 {
		b := make([]byte, source.Intn(20))
		for i := range b {
			b[i] = byte(source.Intn(256))
		}
		hold(t, string(b))
	}
}

// A token that is made by hand of any text, printed, is one of its kind again: names, texts and units have no character that would be lost, but 0.
func TestTokensOfAnyTextAreReadAgain(t *testing.T) {
	source := rand.New(rand.NewSource(777))
	for range 50000 {
		s := strings.ReplaceAll(strings.ToValidUTF8(jumble(source, 6), ""), "\x00", "")
		for _, x := range row(text(s), ident("a"+s), ident(s+"_"), function("--"+s), at("_"+s), id(s+"-a"), measure("1", s+"x")) {
			if l := Tokens(Print(row(x))); !slices.Equal(l, row(x)) {
				t.Fatalf("%s is printed as %s and read again as %s", show(row(x)), brief(Print(row(x))), show(l))
			}
		}
		if l := Tokens(Print(row(bad(s), white))); !slices.Equal(l, row(bad(s), white)) {
			t.Fatalf("a Bad of %s is read again as %s", brief(s), show(l))
		}
	}
}

func TestPrintOfRowsAtRandom(t *testing.T) {
	source := rand.New(rand.NewSource(7777))
	for range 20000 {
		l := make([]Token, source.Intn(8))
		for i := range l {
			l[i] = Token{Kind: uint8(source.Intn(17)), Value: jumble(source, 3), Unit: jumble(source, 3), ID: source.Intn(2) == 0}
		}
		if s, want := Print(l), wantPrint(l); s != want {
			t.Fatalf("Print(%s) = %+q, want %+q", show(l), s, want)
		}
	}
}

// P7.3

func TestWhatIsHandedInIsOnlyRead(t *testing.T) {
	whole := row(ident("1"), bad("a\""), white, Token{Kind: 99, Value: "x"}, measure("1", "e3"), hash("-"), ident("behind"))
	before := slices.Clone(whole)
	s := Print(whole[:6])
	if !slices.Equal(whole, before) {
		t.Errorf("%s became %s", show(before), show(whole))
	}
	clear(whole)
	if s != "\\31 \"a\\\"\n1\\65 3#-" {
		t.Errorf("the text became %q", s)
	}
}

// memory tells all texts of tokens.
func memory(l []Token) []string {
	var out []string
	for _, x := range l {
		out = append(out, x.Value, x.Unit)
	}
	return out
}

// shares tells whether two texts overlap in memory.
func shares(a, b string) bool {
	x, y := uintptr(unsafe.Pointer(unsafe.StringData(a))), uintptr(unsafe.Pointer(unsafe.StringData(b)))
	return a != "" && b != "" && x < y+uintptr(len(b)) && y < x+uintptr(len(a))
}

func TestTokensAreNewMemory(t *testing.T) {
	s := strings.Repeat("abc(@abc#abc 'abc' 12 12% 12px;>\"abc\n", 2)
	first, second := Tokens(s), Tokens(s)
	all := append(memory(first), memory(second)...)
	for i, x := range all {
		if shares(x, s) {
			t.Errorf("%q shares the argument's memory", x)
		}
		for _, y := range all[:i] {
			if len(x) > 1 && shares(x, y) { // the language keeps texts of one byte once for all
				t.Errorf("%q and %q share their memory", x, y)
			}
		}
	}
	clear(first[:cap(first)])
	if !slices.Equal(second, wantTokens(s)) {
		t.Errorf("the second answer became %s", show(second))
	}
}

func TestPrintIsNewMemory(t *testing.T) {
	for _, x := range row(num("12345"), sign("12345"), delim("12345"), ident("abcde"), text("abcde")) {
		first, second := Print(row(x)), Print(row(x))
		if shares(first, x.Value) || shares(first, second) {
			t.Errorf("%q shares memory", first)
		}
	}
}

func TestAnswersHangOnTheArgumentAlone(t *testing.T) {
	done := make(chan bool)
	for range 8 {
		go func() {
			same := true
			source := rand.New(rand.NewSource(8))
			for range 2000 {
				s := jumble(source, 10)
				same = same && slices.Equal(Tokens(s), wantTokens(s)) && Print(Tokens(s)) == wantPrint(wantTokens(s))
			}
			done <- same
		}()
	}
	for range 8 {
		if !<-done {
			t.Error("an answer differs")
		}
	}
}
