package match

import (
	"math/rand"
	"reflect"
	"slices"
	"strconv"
	"strings"
	"testing"
	"time"

	"selvedge/api"
	"selvedge/cssparse"
)

// Matches against the second account

// allRows goes over all rows of numbers, the i-th one below most[i].
func allRows(most []int, yield func([]int)) {
	row := make([]int, len(most))
	var fill func(int)
	fill = func(at int) {
		if at == len(row) {
			yield(row)
			return
		}
		for row[at] = range most[at] {
			fill(at + 1)
		}
	}
	fill(0)
}

func repeated(n, times int) []int { return slices.Repeat([]int{n}, times) }

// allSelectors tells all selectors of n compounds of few types, joined by some joins.
func allSelectors(n int, joins []uint8) []cssparse.Selector {
	types := []string{"", "a", "b"}
	most := append(repeated(len(types), n), repeated(len(joins), max(0, n-1))...)
	var out []cssparse.Selector
	allRows(most, func(row []int) {
		s := make(cssparse.Selector, n)
		for i := range s {
			s[i].Type = types[row[i]]
			if i > 0 {
				s[i].Join = joins[row[n+i-1]]
			}
		}
		out = append(out, s)
	})
	return out
}

// Of three nodes, all trees: any kind of node, and any Up.
func TestAllTreesOfThree(t *testing.T) {
	nodes := []api.Node{element(0, "a"), element(0, "b"), {Kind: 2, Name: "a"}}
	selectors := slices.Concat(allSelectors(0, nil), allSelectors(1, nil), allSelectors(2, []uint8{0, 1, 2, 3, 4}), allSelectors(3, []uint8{1, 2, 3, 4}))
	allRows(append(repeated(len(nodes), 3), repeated(5, 3)...), func(row []int) {
		l := make(api.Tree, 3)
		for i := range l {
			l[i] = nodes[row[i]]
			l[i].Up = row[3+i] - 1
		}
		k := wantKinship(l)
		for _, s := range selectors {
			hold(t, l, k, s)
		}
	})
}

// Of five nodes, all elements whose Ups are parents, or -1.
func TestAllTreesOfFive(t *testing.T) {
	selectors := allSelectors(3, []uint8{1, 2, 3})
	names := []string{"a", "b"}
	allRows(append(repeated(2, 5), 1, 2, 3, 4, 5), func(row []int) {
		l := make(api.Tree, 5)
		for i := range l {
			l[i] = element(row[5+i]-1, names[row[i]])
		}
		k := wantKinship(l)
		for _, s := range selectors {
			hold(t, l, k, s)
		}
	})
}

func TestJumbles(t *testing.T) {
	source := rand.New(rand.NewSource(999)) // the same ones at each run
	for range 12000 {
		l := jumbledTree(source, 12)
		k := wantKinship(l)
		for range 10 {
			hold(t, l, k, jumbledSelector(source, 6))
		}
	}
	for range 300 {
		l := jumbledTree(source, 80)
		k := wantKinship(l)
		for range 10 {
			hold(t, l, k, jumbledSelector(source, 12))
		}
	}
}

// P9.3

// copied tells a copy of a tree that shares no list with it, and all that lies behind the lists' lengths too.
func copied(l api.Tree) api.Tree {
	out := slices.Clone(l[:cap(l)])
	for i, n := range out {
		out[i].Attrs = slices.Clone(n.Attrs[:cap(n.Attrs)])
		out[i].Kids = slices.Clone(n.Kids[:cap(n.Kids)])
	}
	return out
}

func copiedSelector(s cssparse.Selector) cssparse.Selector {
	out := slices.Clone(s[:cap(s)])
	for i, c := range out {
		out[i].IDs = slices.Clone(c.IDs[:cap(c.IDs)])
		out[i].Classes = slices.Clone(c.Classes[:cap(c.Classes)])
		out[i].Tests = slices.Clone(c.Tests[:cap(c.Tests)])
	}
	return out
}

// roomy tells a list that goes on in its memory behind its end.
func roomy[T any](list []T, behind T) []T {
	out := append(slices.Clone(list), behind, behind)
	return out[:len(list)]
}

func TestWhatIsHandedInIsOnlyRead(t *testing.T) {
	source := rand.New(rand.NewSource(9999))
	for range 3000 {
		l := roomy(jumbledTree(source, 10), element(0, "a", "id=x"))
		for i := range l {
			l[i].Attrs = roomy(l[i].Attrs, api.Attr{Name: "id", Value: "x"})
			l[i].Kids = roomy(l[i].Kids, 1)
		}
		s := roomy(jumbledSelector(source, 5), cssparse.Compound{Type: "a"})
		for i := range s {
			s[i].IDs, s[i].Classes = roomy(s[i].IDs, "x"), roomy(s[i].Classes, "y")
			s[i].Tests = roomy(s[i].Tests, cssparse.Test{Name: "c"})
		}
		tree, selector := copied(l), copiedSelector(s)
		hold(t, l, wantKinship(l), s)
		holdWeights(t, s, s[:len(s)/2])
		if !reflect.DeepEqual(copied(l), tree) || !reflect.DeepEqual(copiedSelector(s), selector) {
			t.Fatalf("%s or %s was changed", showTree(l), showSelector(s))
		}
	}
}

// Nothing is kept: what was asked before changes no answer, nor does who else asks.
func TestAnswersHangOnTheArgumentsAlone(t *testing.T) {
	l := api.Tree{element(-1, "a"), element(0, "b")}
	s := cssparse.Selector{{Type: "a"}, {Join: cssparse.Child, Type: "b"}}
	for _, name := range []string{"b", "c", "b"} {
		l[1].Name = name
		if Matches(l, 1, s) != (name == "b") {
			t.Error(name)
		}
	}
	for _, id := range [][]string{nil, {"x"}, nil} {
		s[0].IDs = id
		if ids, _, _ := Weight(s); ids != len(id) || Matches(l, 1, s) != (id == nil) {
			t.Error(id)
		}
	}
	shared, asked := jumbledTree(rand.New(rand.NewSource(90)), 60), make([]cssparse.Selector, 400)
	source := rand.New(rand.NewSource(91))
	for i := range asked {
		asked[i] = jumbledSelector(source, 6)
	}
	done := make(chan string)
	for range 8 {
		go func() {
			var b strings.Builder
			for _, s := range asked {
				for i := range shared {
					b.WriteString(strconv.FormatBool(Matches(shared, i, s)))
				}
				b.WriteString(strconv.Itoa(Compare(s, asked[0])))
			}
			done <- b.String()
		}()
	}
	first := <-done
	for range 7 {
		if <-done != first {
			t.Error("an answer differs")
		}
	}
}

// P9.4

// One compound more ahead, joined in any way: for fewer nodes, or as many, and no less weight.
func TestOneCompoundMoreAhead(t *testing.T) {
	source := rand.New(rand.NewSource(94))
	fewer := 0
	for range 20000 {
		l := jumbledTree(source, 10)
		s := jumbledSelector(source, 4)
		if len(s) == 0 {
			continue // none is for no node, and one compound may be for some
		}
		longer := append(cssparse.Selector{jumbledCompound(source)}, s...)
		longer[1].Join = pick[uint8](source, 0, 1, 2, 3, 1, 2, 3, 4, 255)
		for i := range l {
			switch before, now := Matches(l, i, s), Matches(l, i, longer); {
			case now && !before:
				t.Fatalf("%s is for %d of %s, %s is not", showSelector(longer), i, showTree(l), showSelector(s))
			case before && !now:
				fewer++
			}
		}
		if Compare(longer, s) < 0 {
			t.Fatalf("%s weighs less than %s", showSelector(longer), showSelector(s))
		}
	}
	if fewer == 0 {
		t.Error("no selector became one for fewer nodes")
	}
}

// inTime holds a call against coming late: steps as many as nodes times compounds take a small part of this.
func inTime(t *testing.T, what string, ask func() bool, want bool) {
	t.Helper()
	answer := make(chan bool, 1)
	go func() { answer <- ask() }()
	select {
	case got := <-answer:
		if got != want {
			t.Errorf("%s: %v", what, got)
		}
	case <-time.After(2 * time.Minute):
		t.Fatalf("%s: no answer", what)
	}
}

// long tells a selector of a first compound, and n more, joined by turns.
func long(first string, n int, joins ...uint8) cssparse.Selector {
	s := cssparse.Selector{{Type: first}}
	for i := range n {
		s = append(s, cssparse.Compound{Join: joins[i%len(joins)], Type: "a"})
	}
	return s
}

// deepTree tells a tree of n nodes within one another, the first one of that name.
func deepTree(n int, first string) api.Tree {
	l := make(api.Tree, n)
	for i := range l {
		l[i] = element(i-1, "a")
	}
	l[0].Name = first
	return l
}

// Ways up are far more than can be gone one by one, and all of them lead nowhere, or one alone leads on.
func TestDeepTrees(t *testing.T) {
	for _, x := range []struct{ nodes, compounds int }{{40, 20}, {200, 100}, {2000, 1000}, {100000, 100}, {1000, 20000}, {100000, 1}} {
		l := deepTree(x.nodes, "x")
		inTime(t, "to the top", func() bool {
			return Matches(l, x.nodes-1, long("x", x.compounds, cssparse.Descendant))
		}, x.compounds < x.nodes)
		inTime(t, "nowhere", func() bool {
			return Matches(l, x.nodes-1, long("y", x.compounds, cssparse.Descendant))
		}, false)
		inTime(t, "by two joins", func() bool {
			return Matches(l, x.nodes-1, long("x", x.compounds, cssparse.Descendant, cssparse.Child))
		}, x.compounds < x.nodes)
		inTime(t, "by two joins, nowhere", func() bool {
			return Matches(l, x.nodes-1, long("y", x.compounds, cssparse.Child, cssparse.Descendant))
		}, false)
		inTime(t, "to what has none ahead", func() bool {
			return Matches(l, x.nodes-1, append(long("x", x.compounds, cssparse.Next), cssparse.Compound{Join: cssparse.Descendant}))
		}, false)
	}
}

// pairedTree tells a deep tree, and in its last node levels more, of each of which two elements are with a text between, all the next levels in the second one.
func pairedTree(nodes, levels int) api.Tree {
	l := deepTree(nodes, "x")
	up := nodes - 1
	for range levels {
		l = append(l, element(up, "a"), text(up), element(up, "a"))
		up = len(l) - 1
	}
	return l
}

func TestDeepTreesWithElementsAhead(t *testing.T) {
	for _, x := range []struct{ levels, compounds int }{{30, 40}, {200, 200}, {1000, 1000}, {30000, 100}, {500, 20000}} {
		l := pairedTree(1, x.levels)
		for _, joins := range [][]uint8{{cssparse.Descendant, cssparse.Next}, {cssparse.Descendant, cssparse.Descendant, cssparse.Next}, {cssparse.Child, cssparse.Next, cssparse.Descendant, cssparse.Next}} {
			up := 0 // how many levels the selector goes up, at least
			for i := range x.compounds {
				if joins[i%len(joins)] != cssparse.Next {
					up++
				}
			}
			inTime(t, "to the top", func() bool { return Matches(l, len(l)-1, long("x", x.compounds, joins...)) }, up <= x.levels)
			inTime(t, "nowhere", func() bool { return Matches(l, len(l)-1, long("y", x.compounds, joins...)) }, false)
		}
	}
}

// Most of a way up have no element ahead of them: it is looked for no farther than up to the parent.
func TestDeepTreesWithFewElementsAhead(t *testing.T) {
	l := pairedTree(100000, 200)
	for _, first := range []string{"a", "x"} {
		inTime(t, first, func() bool {
			return Matches(l, len(l)-1, long(first, 201, cssparse.Descendant, cssparse.Next))
		}, true)
	}
	inTime(t, "nowhere", func() bool { return Matches(l, len(l)-1, long("y", 201, cssparse.Descendant, cssparse.Next)) }, false)
}

// All of one level, with texts between, and without a parent.
func TestWideTrees(t *testing.T) {
	for _, up := range []int{-1, 0} {
		for _, gap := range []int{1, 2, 100} { // an element, and then texts, each time
			l := make(api.Tree, 100001)
			for i := range l {
				l[i] = text(up)
				if i > 0 && i%gap == 0 {
					l[i] = element(up, "a")
				}
			}
			l[0] = element(-1, "x")
			n := (len(l) - 1) / gap // elements behind the first node
			inTime(t, "to the first one", func() bool { return Matches(l, len(l)-1, long("a", n-1, cssparse.Next)) }, true)
			inTime(t, "past the first one", func() bool { return Matches(l, len(l)-1, long("x", n, cssparse.Next)) }, up == -1)
			inTime(t, "nowhere", func() bool { return Matches(l, len(l)-1, long("y", n, cssparse.Next)) }, false)
			inTime(t, "past all", func() bool { return Matches(l, len(l)-1, long("a", n+1, cssparse.Next)) }, false)
		}
	}
}
