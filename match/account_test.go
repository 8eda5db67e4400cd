package match

import (
	"fmt"
	"math/rand"
	"regexp"
	"slices"
	"strconv"
	"strings"
	"testing"

	"selvedge/api"
	"selvedge/cssparse"
)

// A second account of the chapter beside the program: from the first compound on, all nodes for which the selector so far is, out of tables that tell of each two nodes how they stand to each other.

// kinship tells of a tree which node stands so to which: by a join's number, as chapter 8 lists them, the node, and what is ahead of it.
type kinship [256][][]bool

func wantKinship(t api.Tree) *kinship {
	k := &kinship{}
	for _, join := range []int{1, 2, 3} {
		k[join] = make([][]bool, len(t))
		for i := range t {
			k[join][i] = make([]bool, len(t))
		}
	}
	paths := wantPaths(t)
	for i := range t {
		ahead := -1
		for j := range i {
			step := strconv.Itoa(j) + "/"
			k[1][i][j] = strings.Contains(paths[i], "/"+step)
			k[2][i][j] = strings.HasSuffix(paths[i], "/"+step)
			if t[j].Kind == 1 && paths[j] == paths[i] {
				ahead = j
			}
		}
		if ahead >= 0 {
			k[3][i][ahead] = true
		}
	}
	return k
}

// wantPaths tells of each node the numbers of all above it, the farthest one first; of one without a parent just /.
func wantPaths(t api.Tree) []string {
	paths := make([]string, len(t))
	for i, n := range t {
		paths[i] = "/"
		for j := range i {
			if n.Up == j {
				paths[i] = paths[j] + strconv.Itoa(j) + "/"
			}
		}
	}
	return paths
}

// wantNodes tells of each node whether a selector is for it.
func wantNodes(t api.Tree, k *kinship, s cssparse.Selector) []bool {
	now := make([]bool, len(t))
	for at, c := range s {
		next := make([]bool, len(t))
		for i, n := range t {
			next[i] = wantCompound(n, c) && (at == 0 || k[c.Join] != nil && anyBoth(now, k[c.Join][i]))
		}
		now = next
	}
	return now
}

// anyBoth tells whether two rows have yes at one place.
func anyBoth(a, b []bool) bool {
	for i := range a {
		if a[i] && b[i] {
			return true
		}
	}
	return false
}

var wordOf = regexp.MustCompile("[^\t\n\f\r ]+")

func wantCompound(n api.Node, c cssparse.Compound) bool {
	values := map[string]string{}
	for _, a := range slices.Backward(n.Attrs) {
		values[a.Name] = a.Value
	}
	ok := n.Kind == 1 && (c.Type == "" || c.Type == n.Name)
	for _, x := range c.IDs {
		v, has := values["id"]
		ok = ok && has && v == x
	}
	for _, x := range c.Classes {
		ok = ok && slices.Contains(wordOf.FindAllString(values["class"], -1), x)
	}
	for _, x := range c.Tests {
		v, has := values[x.Name]
		ok = ok && has && (v == x.Value || !x.Has)
	}
	return ok
}

// wantWeight tells a weight as digits that stand in the order of weights.
func wantWeight(s cssparse.Selector) string {
	var ids, others, types int
	for _, c := range s {
		ids += len(slices.Concat([]string{}, c.IDs))
		for range c.Classes {
			others++
		}
		for range c.Tests {
			others++
		}
		types += min(1, len(c.Type))
	}
	return fmt.Sprintf("%08d %08d %08d", ids, others, types)
}

// hold holds Matches of all nodes, and beyond, against the second account.
func hold(t *testing.T, l api.Tree, k *kinship, s cssparse.Selector) {
	t.Helper()
	want := wantNodes(l, k, s)
	for i := -1; i <= len(l); i++ {
		wanted := i >= 0 && i < len(l) && want[i]
		if got := Matches(l, i, s); got != wanted {
			t.Fatalf("Matches(%s, %d, %s) = %v", showTree(l), i, showSelector(s), got)
		}
	}
}

// holdNodes holds the nodes for which a selector is against an answer that is written out, and the second account along with it.
func holdNodes(t *testing.T, l api.Tree, s cssparse.Selector, want string) {
	t.Helper()
	var got []string
	for i := range l {
		if Matches(l, i, s) {
			got = append(got, strconv.Itoa(i))
		}
	}
	if strings.Join(got, " ") != want {
		t.Errorf("%s is for %v of %s, want %s", showSelector(s), got, showTree(l), want)
	}
	hold(t, l, wantKinship(l), s)
}

// holdSelect does so with a selector as it is written.
func holdSelect(t *testing.T, l api.Tree, s, want string) {
	t.Helper()
	holdNodes(t, l, selector(t, s), want)
}

// selector tells the selector that a text is.
func selector(t *testing.T, s string) cssparse.Selector {
	t.Helper()
	row, ok := cssparse.Select(s)
	if !ok || len(row) != 1 {
		t.Fatalf("%q is no selector", s)
	}
	return row[0]
}

// holdWeights holds Weight and Compare of two selectors against the second account.
func holdWeights(t *testing.T, a, b cssparse.Selector) {
	t.Helper()
	x, y := wantWeight(a), wantWeight(b)
	ids, others, types := Weight(a)
	if got := fmt.Sprintf("%08d %08d %08d", ids, others, types); got != x {
		t.Fatalf("Weight(%s) = %s, want %s", showSelector(a), got, x)
	}
	if got, want := Compare(a, b), strings.Compare(x, y); got != want {
		t.Fatalf("Compare(%s, %s) = %d, want %d", showSelector(a), showSelector(b), got, want)
	}
}

// element, text and root make nodes; an attribute is written name=value.
func element(up int, name string, attrs ...string) api.Node {
	n := api.Node{Kind: 1, Name: name, Up: up}
	for _, a := range attrs {
		name, value, _ := strings.Cut(a, "=")
		n.Attrs = append(n.Attrs, api.Attr{Name: name, Value: value})
	}
	return n
}

func text(up int) api.Node { return api.Node{Kind: 2, Data: "x", Up: up} }

func root() api.Node { return api.Node{Up: -1} }

// brief tells a text, cut where it is too long to be read.
func brief(s string) string { return s[:min(len(s), 1000)] }

func showTree(l api.Tree) string {
	var b strings.Builder
	for _, n := range l {
		fmt.Fprintf(&b, "{%d %q %q up %d}", n.Kind, n.Name, n.Attrs, n.Up)
		if b.Len() > 1000 {
			break
		}
	}
	return brief(b.String())
}

func showSelector(s cssparse.Selector) string {
	var b strings.Builder
	for _, c := range s {
		fmt.Fprintf(&b, "{join %d %q %q %q [", c.Join, c.Type, c.IDs, c.Classes)
		for _, x := range c.Tests {
			fmt.Fprintf(&b, "%q=%q:%v ", x.Name, x.Value, x.Has)
		}
		b.WriteString("]}")
		if b.Len() > 1000 {
			break
		}
	}
	return brief(b.String())
}

// Trees and selectors at random, of few names, so that much fits.

func pick[T any](source *rand.Rand, list ...T) T { return list[source.Intn(len(list))] }

// jumbledTree tells a tree of up to most nodes: mostly elements, their parents mostly there.
func jumbledTree(source *rand.Rand, most int) api.Tree {
	l := make(api.Tree, source.Intn(most+1))
	for i := range l {
		l[i] = api.Node{Kind: pick[uint8](source, 1, 1, 1, 1, 1, 1, 0, 2, 3), Name: pick(source, "a", "b", "")}
		l[i].Up = source.Intn(i + 1)
		if source.Intn(3) == 0 {
			l[i].Up = source.Intn(len(l)+2) - 1
		} else if i > 0 && source.Intn(2) == 0 {
			l[i].Up = i - 1 - source.Intn(min(i, 3))
		}
		for range source.Intn(3) {
			l[i].Attrs = append(l[i].Attrs, api.Attr{Name: pick(source, "id", "class", "c", ""), Value: pick(source, "", "x", "y", "x y", " y\tx\n", "xy")})
		}
	}
	return l
}

// jumbledSelector tells a selector of up to most compounds.
func jumbledSelector(source *rand.Rand, most int) cssparse.Selector {
	s := make(cssparse.Selector, source.Intn(most+1))
	for i := range s {
		s[i] = jumbledCompound(source)
	}
	return s
}

// jumbledCompound tells a compound; most are for many nodes.
func jumbledCompound(source *rand.Rand) cssparse.Compound {
	c := cssparse.Compound{Join: pick[uint8](source, 1, 1, 1, 1, 2, 2, 2, 3, 3, 3), Type: pick(source, "", "", "a", "b")}
	if source.Intn(20) == 0 {
		c.Join = pick[uint8](source, 0, 4, 255)
	}
	switch source.Intn(12) {
	case 0:
		c.IDs = append(c.IDs, pick(source, "x", "y", "", "x y"))
	case 1, 2:
		c.Classes = append(c.Classes, pick(source, "x", "y", "", "x y"))
	case 3:
		c.Classes = append(c.Classes, "x", "y")
	case 4, 5:
		c.Tests = append(c.Tests, cssparse.Test{Name: pick(source, "id", "c", ""), Value: pick(source, "x", ""), Has: source.Intn(2) == 0})
	}
	return c
}
