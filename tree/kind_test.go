package tree

import (
	"reflect"
	"strings"
	"sync"
	"testing"
)

// tellers are the two ways in which the package tells a kind: they say the same.
var tellers = []struct {
	name string
	tell func(string) uint8
}{{"Kind", Kind}, {"LookUp", LookUp}}

// P5.1

func TestKindOfEveryElement(t *testing.T) {
	names, kindOf := chart()
	if len(names) != 41 || len(kindOf) != 41 {
		t.Fatalf("%d names, %d elements", len(names), len(kindOf))
	}
	for _, x := range tellers {
		for name, kind := range kindOf {
			if k := x.tell(name); k != kind {
				t.Errorf("%s(%q) = %d, want %d", x.name, name, k, kind)
			}
		}
	}
}

func TestKindOfNamesThatAreNone(t *testing.T) {
	none := []string{"", " ", "\x00", "\xFF", "table", "html", "body", "head", "title", "img", "input", "script", "h", "h0", "h7", "h10", "h1h2", "pp", "lil", "a b", "div ul", "1", "0", "8", "mark2", "\u05D0", strings.Repeat("b", 1<<20)}
	for name := range chartedKinds {
		none = append(none, " "+name, name+" ", name+"\x00", name+"/", "<"+name+">", strings.ToUpper(name), strings.ToUpper(name[:1])+name[1:], name+name+"x", name+"\xFF", "x-"+name)
	}
	for _, x := range tellers {
		for _, name := range none {
			if k := x.tell(name); k != 0 {
				t.Errorf("%s(%.20q) = %d", x.name, name, k)
			}
		}
	}
}

func TestKindOfAllShortNames(t *testing.T) {
	const signs = "abcdefghijklmnopqrstuvwxyz0123456789 P"
	for _, x := range tellers {
		hold := func(name string) {
			if k := x.tell(name); k != chartedKinds[name] {
				t.Fatalf("%s(%q) = %d, want %d", x.name, name, k, chartedKinds[name])
			}
		}
		for _, a := range strings.Split(signs, "") {
			hold(a)
			for _, b := range strings.Split(signs, "") {
				hold(a + b)
				for _, c := range strings.Split(signs, "") {
					hold(a + b + c)
				}
			}
		}
	}
}

// The map of the elements' kinds

func TestTheMapIsTheChart(t *testing.T) {
	LookUp("p")
	if !reflect.DeepEqual(kinds, chartedKinds) {
		t.Errorf("%v, want %v", kinds, chartedKinds)
	}
}

// which tells the memory of the map.
func which() uintptr { return reflect.ValueOf(kinds).Pointer() }

func TestTheMapIsMadeOnce(t *testing.T) {
	for range 100 {
		once, kinds = sync.Once{}, nil
		begin := make(chan int)
		seen := make([]uintptr, 32)
		var all sync.WaitGroup
		for i := range seen {
			all.Go(func() {
				<-begin
				for name, kind := range chartedKinds {
					if k := LookUp(name); k != kind {
						t.Errorf("LookUp(%q) = %d, want %d", name, k, kind)
					}
				}
				seen[i] = which()
			})
		}
		close(begin)
		all.Wait()
		for _, x := range seen {
			if x != which() {
				t.Fatal("another map was made")
			}
		}
	}
	once.Do(func() { t.Error("it was not made by the once") })
}

func TestTheMapIsMadeWhenItIsAskedFirst(t *testing.T) {
	once, kinds = sync.Once{}, nil
	Kind("p")
	Parse([]byte("<p>a<br>"))
	Right(base())
	if kinds != nil {
		t.Error("a map was made that nobody had asked")
	}
	LookUp("p")
	if kinds == nil {
		t.Error("no map was made")
	}
}

// TestNoAnswerHangsOnTheMap asks the chapter's calls with a map that tells otherwise.
func TestNoAnswerHangsOnTheMap(t *testing.T) {
	LookUp("p")
	before := kinds
	defer func() { kinds = before }()
	kinds = map[string]uint8{"table": 1, "p": 7}
	if LookUp("table") != 1 || LookUp("b") != 0 {
		t.Error("the map was made anew, or is not asked")
	}
	if Kind("table") != 0 || Kind("p") != 2 || Kind("b") != 5 {
		t.Error("Kind hangs on the map")
	}
	wantTree(t, "<p>a<p><b>c", "((p'a)(p(b'c)))")
	wantError(t, "<table>", 50, 0)
}

func TestManyAskAtTheSameTime(t *testing.T) {
	var all sync.WaitGroup
	for range 16 {
		all.Go(func() {
			for range 50 {
				if u, e, at := Parse([]byte("x<ul id=a><li>b<br>c</ul>d")); show(u) != `('x(ul "id"="a"(li'b(br)'c))'d)` || e != 0 || at != 0 || Right(u) != 0 || Kind("li") != 3 || LookUp("li") != 3 {
					t.Errorf("%s, %d at %d", show(u), e, at)
				}
			}
		})
	}
	all.Wait()
}
