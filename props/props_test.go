package props

import (
	"math"
	"strconv"
	"strings"
	"sync"
	"testing"

	"selvedge/api"
)

// charted is the chapter's table, word for word, so that the program's own is held against a second one.
const charted = `
| R | 0590, 05BE, 05C0, 05C3, 05C6, 05C8 to 05FF, 200F, FB1D, FB1F to FB28, FB2A to FB4F, 1E900 to 1E943, 1E94B to 1E95F |
| AL | 0608, 060B, 060D, 061B to 064A, 066D to 066F, 0671 to 06D5, 06E5 to 06E6, 06EE to 06EF, 06FA to 0710, 0712 to 072F, 074B to 07A5, 07B1 to 07BF, FB50 to FD3D, FE70 to FEFC, 1EE00 to 1EEEF |
| EN | 0030 to 0039, 00B2 to 00B3, 00B9, 06F0 to 06F9, 2070, 2074 to 2079, 2080 to 2089 |
| ES | 002B, 002D, 207A to 207B, 208A to 208B, 2212, FB29 |
| ET | 0023 to 0025, 00A2 to 00A5, 00B0 to 00B1, 0609 to 060A, 066A, 2030 to 2034, 20A0 to 20CF, 2213 |
| AN | 0600 to 0605, 0660 to 0669, 066B to 066C, 06DD |
| CS | 002C, 002E to 002F, 003A, 00A0, 060C, 202F, 2044 |
| NSM | 0300 to 036F, 0483 to 0489, 0591 to 05BD, 05BF, 05C1 to 05C2, 05C4 to 05C5, 05C7, 0610 to 061A, 064B to 065F, 0670, 06D6 to 06DC, 06DF to 06E4, 06E7 to 06E8, 06EA to 06ED, 0711, 0730 to 074A, 07A6 to 07B0, 20D0 to 20F0, FB1E, FE00 to FE0F, FE20 to FE2F, 1E944 to 1E94A, E0100 to E01EF |
| BN | 0000 to 0008, 000E to 001B, 007F to 0084, 0086 to 009F, 00AD, 200B to 200D, 2060 to 2065, 206A to 206F, FEFF |
| B | 000A, 000D, 001C to 001E, 0085, 2029 |
| S | 0009, 000B, 001F |
| WS | 000C, 0020, 2000 to 200A, 2028, 205F, 3000 |
| ON | 0021 to 0022, 0026 to 002A, 003B to 0040, 005B to 0060, 007B to 007E, 00A1, 00A6 to 00A9, 00AB to 00AC, 00AE to 00AF, 00B4, 00B6 to 00B8, 00BB to 00BF, 00D7, 00F7, 0606 to 0607, 060E to 060F, 06DE, 06E9, 2010 to 2027, 2035 to 2043, 2045 to 205E, 207C to 207E, 208C to 208E, 2190 to 2211, 2214 to 2335, 2500 to 2637, 27E6 to 27EF, 3001 to 3004, 3008 to 3020, FD3E to FD3F, FFFD, 1F300 to 1F64F |
| LRE | 202A |
| RLE | 202B |
| LRO | 202D |
| RLO | 202E |
| PDF | 202C |
| LRI | 2066 |
| RLI | 2067 |
| FSI | 2068 |
| PDI | 2069 |
`

const chartedBrackets = `0028 0029, 005B 005D, 007B 007D, 2045 2046, 207D 207E, 208D 208E, 2308 2309, 230A 230B, 2329 232A, 27E6 27E7, 27E8 27E9, 27EA 27EB, 27EC 27ED, 27EE 27EF, 3008 3009, 300A 300B, 300C 300D, 300E 300F, 3010 3011, 3014 3015, 3016 3017, 3018 3019, 301A 301B`

const chartedMirrors = `003C 003E, 00AB 00BB, 2039 203A, 2208 220B, 2264 2265, 226A 226B, 2282 2283`

var names = map[string]api.Class{
	"L": api.L, "R": api.R, "AL": api.AL, "EN": api.EN, "ES": api.ES, "ET": api.ET, "AN": api.AN, "CS": api.CS,
	"NSM": api.NSM, "BN": api.BN, "B": api.B, "S": api.S, "WS": api.WS, "ON": api.ON, "LRE": api.LRE, "RLE": api.RLE,
	"LRO": api.LRO, "RLO": api.RLO, "PDF": api.PDF, "LRI": api.LRI, "RLI": api.RLI, "FSI": api.FSI, "PDI": api.PDI,
}

// strange are runes that are no characters, at the ends of what a rune can be and right beside the characters.
var strange = []rune{math.MinInt32, math.MinInt32 + 1, -0x110000, -0x5D0, -256, -255, -40, -2, -1, 0x110000, 0x110001, 0x1100FF, 0x110100, 0x1105D0, 0x1000028, math.MaxInt32 - 1, math.MaxInt32}

func number(t *testing.T, s string) rune {
	t.Helper()
	n, err := strconv.ParseUint(s, 16, 32)
	if err != nil {
		t.Fatal(err)
	}
	return rune(n)
}

type row struct {
	first rune
	last  rune
	class api.Class
}

func chart(t *testing.T) []row {
	t.Helper()
	var out []row
	for _, line := range strings.Split(strings.TrimSpace(charted), "\n") {
		cells := strings.Split(strings.Trim(line, "| "), " | ")
		class, ok := names[cells[0]]
		if !ok || len(cells) != 2 {
			t.Fatal(line)
		}
		for _, part := range strings.Split(cells[1], ", ") {
			first, last, long := strings.Cut(part, " to ")
			if !long {
				last = first
			}
			out = append(out, row{number(t, first), number(t, last), class})
		}
	}
	return out
}

func couples(t *testing.T, s string) [][2]rune {
	t.Helper()
	var out [][2]rune
	for _, part := range strings.Split(s, ", ") {
		a, b, ok := strings.Cut(part, " ")
		if !ok {
			t.Fatal(part)
		}
		out = append(out, [2]rune{number(t, a), number(t, b)})
	}
	return out
}

// everyRune goes over all characters, and over runes on both sides that are none.
func everyRune(yield func(rune) bool) {
	for r := rune(-0x400); r < 0x110400; r++ {
		if !yield(r) {
			return
		}
	}
	for _, r := range strange {
		if !yield(r) {
			return
		}
	}
}

// P1.1

func TestClassOfEveryRune(t *testing.T) {
	want := map[rune]api.Class{}
	for _, x := range chart(t) {
		for r := x.first; r <= x.last; r++ {
			if want[r] != 0 {
				t.Fatalf("%X stands in the chart twice", r)
			}
			want[r] = x.class
		}
	}
	for r := range everyRune {
		w := want[r]
		if w == 0 {
			w = api.L
		}
		if c := Class(r); c != w {
			t.Fatalf("Class(%X) = %d, want %d", r, c, w)
		}
	}
}

// tellers are the two ways in which the package tells a class: they say the same.
var tellers = []struct {
	name string
	tell func(rune) api.Class
}{{"Class", Class}, {"LookUp", LookUp}}

func TestClassAtEndsOfRanges(t *testing.T) {
	rows := chart(t)
	look := func(r rune) api.Class {
		for _, x := range rows {
			if x.first <= r && r <= x.last {
				return x.class
			}
		}
		return api.L
	}
	for _, teller := range tellers {
		for _, x := range rows {
			for _, r := range []rune{x.first - 1, x.first, x.last, x.last + 1} {
				if c := teller.tell(r); c != look(r) {
					t.Errorf("at %X to %X: %s(%X) = %d, want %d", x.first, x.last, teller.name, r, c, look(r))
				}
			}
		}
	}
}

// Class searches by halves: each of the program's ranges is none that is empty, and stands behind the one ahead of it.
func TestRangesRise(t *testing.T) {
	last := rune(-1)
	for _, s := range ranges() {
		if s.first <= last || s.first > s.last || s.last > 0x10FFFF {
			t.Errorf("%X to %X stands behind %X", s.first, s.last, last)
		}
		last = s.last
	}
}

func TestClassExamples(t *testing.T) {
	for _, x := range []struct {
		r    rune
		want api.Class
	}{
		{0x28, api.ON}, {0x29, api.ON}, {0x5D0, api.R}, {0x627, api.AL}, {0x661, api.AN}, {0x31, api.EN}, {0x20, api.WS},
		{0x3C, api.ON}, {0x2067, api.RLI}, {0x300, api.NSM}, {0x41, api.L}, {-1, api.L},
		{0x4E00, api.L}, {0xD800, api.L}, {0xDFFF, api.L}, {0x1E95F, api.R}, {0x1E960, api.L}, {0xE0100, api.NSM},
		{0xE01F0, api.L}, {0xFFFF, api.L}, {0x10000, api.L}, {0x10FFFF, api.L}, {0x110000, api.L},
	} {
		if c := Class(x.r); c != x.want {
			t.Errorf("Class(%X) = %d, want %d", x.r, c, x.want)
		}
	}
}

func TestClassOfWhatIsNoCharacter(t *testing.T) {
	for _, teller := range tellers {
		for _, r := range strange {
			if c := teller.tell(r); c != api.L {
				t.Errorf("%s(%d) = %d", teller.name, r, c)
			}
		}
	}
}

// The document's ways: the lookup in two stages.

func TestLookUpTellsWhatClassTells(t *testing.T) {
	for r := range everyRune {
		if c, l := Class(r), LookUp(r); c != l {
			t.Fatalf("Class(%X) = %d, LookUp(%X) = %d", r, c, r, l)
		}
	}
}

// forget lays the package's variables as they are when the program starts.
func forget() {
	once = sync.Once{}
	builds.Store(0)
	classes = lookup{}
}

func TestLookupIsMadeOnce(t *testing.T) {
	forget()
	const askers = 64
	start := make(chan bool)
	answers := make(chan api.Class)
	for i := range askers {
		go func() {
			<-start
			if i%8 == 0 && Builds() != 1 {
				answers <- 0
				return
			}
			answers <- LookUp(0x5D0 + rune(i%4))
		}()
	}
	close(start)
	for range askers {
		if c := <-answers; c != api.R {
			t.Errorf("class %d", c)
		}
	}
	if n := builds.Load(); n != 1 {
		t.Errorf("the lookup was made %d times", n)
	}
}

func TestBuildsTellsOneWhoeverAsked(t *testing.T) {
	forget()
	if n := Builds(); n != 1 {
		t.Errorf("asked first: %d", n)
	}
	LookUp(0x5D0)
	LookUp(-1)
	if n := Builds(); n != 1 {
		t.Errorf("asked again: %d", n)
	}
	if c := LookUp(0x627); c != api.AL {
		t.Errorf("class %d", c)
	}
}

// What the four functions of the chapter answer hangs on no variable: neither do they fill the lookup, nor read it.
func TestTheFourHangOnNoVariable(t *testing.T) {
	forget()
	defer forget()
	ask := func(when string) {
		if c := Class(0x5D0); c != api.R {
			t.Errorf("%s: Class(5D0) = %d", when, c)
		}
		if r, open, ok := Bracket(0x2329); r != 0x3009 || !open || !ok {
			t.Errorf("%s: Bracket(2329) = %X %v %v", when, r, open, ok)
		}
		if m, ok := Mirror(0x3C); m != 0x3E || !ok {
			t.Errorf("%s: Mirror(3C) = %X %v", when, m, ok)
		}
		if !Space(0x20) {
			t.Errorf("%s: Space(20) = false", when)
		}
	}
	ask("at the start")
	if n := builds.Load(); n != 0 || classes.blocks != nil {
		t.Errorf("they made the lookup, %d times", n)
	}
	once.Do(func() {})
	ask("with an empty lookup")
}

// P1.2

func TestBracketOfEveryRune(t *testing.T) {
	type answer struct {
		r    rune
		open bool
		ok   bool
	}
	want := map[rune]answer{}
	for _, c := range couples(t, chartedBrackets) {
		want[c[0]] = answer{c[1], true, true}
		want[c[1]] = answer{c[1], false, true}
	}
	want[0x2329] = answer{0x3009, true, true}
	want[0x232A] = answer{0x3009, false, true}
	if len(want) != 46 {
		t.Fatal(len(want))
	}
	for r := range everyRune {
		var got answer
		got.r, got.open, got.ok = Bracket(r)
		if got != want[r] {
			t.Fatalf("Bracket(%X) = %X %v %v, want %X %v %v", r, got.r, got.open, got.ok, want[r].r, want[r].open, want[r].ok)
		}
	}
}

func TestBracketExamples(t *testing.T) {
	for _, x := range []struct {
		r    rune
		want rune
		open bool
		ok   bool
	}{
		{0x28, 0x29, true, true}, {0x29, 0x29, false, true}, {0x2329, 0x3009, true, true}, {0x232A, 0x3009, false, true},
		{0x3008, 0x3009, true, true}, {0x3009, 0x3009, false, true}, {0x27, 0, false, false}, {0x2A, 0, false, false},
		{0x3C, 0, false, false}, {0xAB, 0, false, false}, {0x3012, 0, false, false}, {0x3013, 0, false, false},
		{0x301C, 0, false, false}, {0, 0, false, false}, {-1, 0, false, false}, {0x110000, 0, false, false},
	} {
		if r, open, ok := Bracket(x.r); r != x.want || open != x.open || ok != x.ok {
			t.Errorf("Bracket(%X) = %X %v %v, want %X %v %v", x.r, r, open, ok, x.want, x.open, x.ok)
		}
	}
}

// P1.3

func TestMirrorOfEveryRune(t *testing.T) {
	want := map[rune]rune{}
	for _, c := range append(couples(t, chartedBrackets), couples(t, chartedMirrors)...) {
		want[c[0]], want[c[1]] = c[1], c[0]
	}
	if len(want) != 60 {
		t.Fatal(len(want))
	}
	for r := range everyRune {
		w, has := want[r]
		if !has {
			w = r
		}
		if m, ok := Mirror(r); m != w || ok != has {
			t.Fatalf("Mirror(%X) = %X %v, want %X %v", r, m, ok, w, has)
		}
	}
}

func TestMirrorExamples(t *testing.T) {
	for _, x := range []struct {
		r    rune
		want rune
		ok   bool
	}{
		{0x28, 0x29, true}, {0x29, 0x28, true}, {0x2329, 0x232A, true}, {0x232A, 0x2329, true}, {0x3C, 0x3E, true},
		{0x3E, 0x3C, true}, {0x2208, 0x220B, true}, {0x3D, 0x3D, false}, {0x2209, 0x2209, false}, {0x41, 0x41, false},
		{0, 0, false}, {-1, -1, false}, {-0x28, -0x28, false}, {0x110028, 0x110028, false},
	} {
		if m, ok := Mirror(x.r); m != x.want || ok != x.ok {
			t.Errorf("Mirror(%X) = %X %v, want %X %v", x.r, m, ok, x.want, x.ok)
		}
	}
}

func TestSpaceOfEveryRune(t *testing.T) {
	want := map[rune]bool{9: true, 0xA: true, 0xC: true, 0xD: true, 0x20: true}
	for r := range everyRune {
		if s := Space(r); s != want[r] {
			t.Fatalf("Space(%X) = %v", r, s)
		}
	}
}

// P1.4

func TestMirrorOfMirrorIsItself(t *testing.T) {
	for r := range everyRune {
		m, ok := Mirror(r)
		back, again := Mirror(m)
		if back != r || again != ok {
			t.Fatalf("Mirror(Mirror(%X)) = %X %v", r, back, again)
		}
	}
}

func TestBracketsAreNeutralAndMirrorTheirPair(t *testing.T) {
	for r := range everyRune {
		closing, open, ok := Bracket(r)
		if !ok {
			continue
		}
		if c := Class(r); c != api.ON {
			t.Errorf("bracket %X has the class %d", r, c)
		}
		m, has := Mirror(r)
		pair, mirrorOpens, isBracket := Bracket(m)
		if !has || !isBracket || pair != closing || mirrorOpens == open {
			t.Errorf("bracket %X and its mirror %X do not pair", r, m)
		}
	}
}

func TestSpaceIsWithinSeventyF(t *testing.T) {
	n := 0
	for r := range everyRune {
		if Space(r) {
			n++
			if r < 0 || r > 0x7F {
				t.Errorf("%X is white space", r)
			}
		}
	}
	if n != 5 {
		t.Errorf("%d characters are white space", n)
	}
}

func TestEachClassIsSomeCharacters(t *testing.T) {
	seen := map[api.Class]bool{}
	for r := rune(0); r <= 0x10FFFF; r++ {
		seen[Class(r)] = true
	}
	for name, c := range names {
		if !seen[c] {
			t.Errorf("no character has the class %s", name)
		}
	}
	if len(seen) != len(names) || len(names) != 23 {
		t.Errorf("%d classes are told, %d are named", len(seen), len(names))
	}
}

// Rules that hold everywhere: an answer hangs on nothing but the rune, whatever was asked before.
func TestAnswersAreTheSameAgain(t *testing.T) {
	for r := range everyRune {
		first := Class(r)
		Class(r ^ 0x5A5)
		if again := Class(r); again != first {
			t.Fatalf("Class(%X): %d, then %d", r, first, again)
		}
	}
}
