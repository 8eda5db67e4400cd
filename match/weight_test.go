package match

import (
	"math/rand"
	"testing"

	"selvedge/cssparse"
)

// P9.2

func TestWeights(t *testing.T) {
	for _, x := range []struct {
		s                  string
		ids, others, types int
	}{
		{"*", 0, 0, 0}, {"p", 0, 0, 1}, {"#x", 1, 0, 0}, {".a", 0, 1, 0}, {"[dir]", 0, 1, 0}, {"[dir=rtl]", 0, 1, 0}, {"div > span#x[dir=rtl]", 1, 1, 2}, {".a.b.c", 0, 3, 0}, {"#x#y", 2, 0, 0}, {"#x#x", 2, 0, 0}, {".a.a[b][b]", 0, 4, 0},
		{"p p p", 0, 0, 3}, {"p + p > p", 0, 0, 3}, {"* > *", 0, 0, 0}, {"* p *", 0, 0, 1}, {"a#b.c[d] + e#f#g.h.i[j][k=l] > *#m", 4, 6, 2},
	} {
		s := selector(t, x.s)
		if a, b, c := Weight(s); a != x.ids || b != x.others || c != x.types {
			t.Errorf("Weight(%s) = %d %d %d", x.s, a, b, c)
		}
		holdWeights(t, s, s)
	}
}

func TestWeightsOfWhatIsMadeByHand(t *testing.T) {
	for _, x := range []struct {
		s                  cssparse.Selector
		ids, others, types int
	}{
		{nil, 0, 0, 0}, {cssparse.Selector{}, 0, 0, 0}, {cssparse.Selector{{}, {}, {}}, 0, 0, 0},
		{cssparse.Selector{{Join: 200, Type: "*"}}, 0, 0, 1}, {cssparse.Selector{{Type: " "}, {Type: "\xFF"}}, 0, 0, 2},
		{cssparse.Selector{{IDs: []string{"", " ", ""}}}, 3, 0, 0}, {cssparse.Selector{{Classes: []string{"", "a b"}}}, 0, 2, 0}, {cssparse.Selector{{Tests: make([]cssparse.Test, 5)}}, 0, 5, 0},
		{cssparse.Selector{{Classes: make([]string, 2), Tests: make([]cssparse.Test, 3)}, {IDs: make([]string, 4), Type: "a", Join: 77}}, 4, 5, 1},
		{cssparse.Selector{{IDs: make([]string, 70000)}, {Classes: make([]string, 70001)}, {Tests: make([]cssparse.Test, 70002)}}, 70000, 140003, 0},
		{make(cssparse.Selector, 100000), 0, 0, 0},
	} {
		if a, b, c := Weight(x.s); a != x.ids || b != x.others || c != x.types {
			t.Errorf("Weight(%s) = %d %d %d", showSelector(x.s), a, b, c)
		}
	}
}

// rising are selectors, each of more weight than the one ahead; those of a row weigh alike.
func rising() [][]string {
	return [][]string{
		{"*", "* > *", "* + * *"},
		{"p", "b", "* p", "p > *"},
		{"p p", "a + b", "a > * > b"},
		{"p p p p p p p p p p p p"},
		{".a", ".b", "[c]", "[d=e]", "* > .a"},
		{"p.a", "p[c]", "p .a", ".a > p"},
		{"p p.a p"},
		{".a.a", ".a[b]", "[b] [c]", ".a > .b"},
		{".a.b p"},
		{".a.b.c.d.e.f.g.h.i.j.k.l p"},
		{"#x", "* #y"},
		{"#x p", "p#x", "p > #x"},
		{"#x.a", "#x[b]", ".a + #x"},
		{"#x.a p"},
		{"#x.a.b.c.d.e.f.g.h.i.j.k p p p"},
		{"#x#y", "#x #x"},
		{"#x#y#z p"},
	}
}

func TestCompareOfRisingWeights(t *testing.T) {
	rows := rising()
	for i, row := range rows {
		for j, other := range rows {
			want := min(1, max(-1, i-j))
			for _, a := range row {
				for _, b := range other {
					if got := Compare(selector(t, a), selector(t, b)); got != want {
						t.Errorf("Compare(%s, %s) = %d, want %d", a, b, got, want)
					}
				}
			}
		}
	}
}

// weighing tells a selector of that weight.
func weighing(ids, others, types int) cssparse.Selector {
	s := cssparse.Selector{{IDs: make([]string, ids), Classes: make([]string, others/2), Tests: make([]cssparse.Test, others-others/2)}}
	for range types {
		s = append(s, cssparse.Compound{Join: cssparse.Child, Type: "p"})
	}
	return s
}

func TestCompareOfAllSmallWeights(t *testing.T) {
	const most = 4
	var list []cssparse.Selector
	for n := range most * most * most {
		list = append(list, weighing(n/most/most, n/most%most, n%most))
	}
	list = append(list, nil, weighing(0, 0, 300), weighing(0, 300, 0), weighing(300, 0, 0), weighing(1, 0, 300), weighing(0, 300, 300))
	for i, a := range list[:most*most*most] { // they stand in the order of weights
		for j, b := range list[:most*most*most] {
			if got := Compare(a, b); got != min(1, max(-1, i-j)) {
				t.Fatalf("Compare of %d and %d = %d", i, j, got)
			}
		}
	}
	for _, a := range list {
		for _, b := range list {
			holdWeights(t, a, b)
		}
	}
}

func TestJumbledWeights(t *testing.T) {
	source := rand.New(rand.NewSource(9))
	last := cssparse.Selector(nil)
	for range 30000 {
		s := jumbledSelector(source, 6)
		holdWeights(t, s, last)
		holdWeights(t, last, s)
		last = s
	}
}

// P9.4: Compare is an order

func TestCompareIsAnOrder(t *testing.T) {
	source := rand.New(rand.NewSource(99))
	for range 30000 {
		a, b, c := jumbledSelector(source, 4), jumbledSelector(source, 4), jumbledSelector(source, 4)
		if Compare(a, a) != 0 || Compare(a, b) != -Compare(b, a) {
			t.Fatal(showSelector(a), showSelector(b))
		}
		if Compare(a, b) <= 0 && Compare(b, c) <= 0 && Compare(a, c) != max(-1, Compare(a, b)+Compare(b, c)) {
			t.Fatal(showSelector(a), showSelector(b), showSelector(c))
		}
	}
}
