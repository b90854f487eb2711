package parse_test

import (
	"slices"
	"strings"
	"testing"

	"bluebell/api"
	"bluebell/parse"
)

// deep returns a tree of so many levels, with a second part on each.
func deep(levels int) api.Node {
	n := api.Node{Op: api.EName, S: "last"}
	for range levels - 1 {
		n = api.Node{Op: api.EBin, N: api.Add, L: []api.Node{n, {Op: api.EName, S: "other"}}}
	}
	return n
}

// P3.4
func TestSizeAndLevels(t *testing.T) {
	if n := parse.Size(nil); n != 0 {
		t.Errorf("Size of nothing: %d", n)
	}
	for src, want := range map[string][2]int{"1": {1, 1}, "(((1)))": {1, 1}, "-a": {2, 2}, "f()": {2, 2}, "a+b*c": {5, 3}, "(a+b)*(c+d)": {7, 3}, "f(a,b+1,!c)": {8, 3}, "valof{}": {3, 3}, "valof{a();let b=2}": {8, 5}, "a->b,~~c": {6, 4}} {
		n := mustExpr(t, src)
		if size, levels := parse.Size([]api.Node{n}), parse.Levels(n); size != want[0] || levels != want[1] {
			t.Errorf("%q: size %d, levels %d; want %v", src, size, levels, want)
		}
		if size := parse.Size([]api.Node{n, n, {}}); size != 2*want[0]+1 {
			t.Errorf("two of %q: size %d", src, size)
		}
	}
	for _, levels := range []int{1, 2, 41, 10000} {
		n := deep(levels)
		if l, size := parse.Levels(n), parse.Size([]api.Node{n}); l != levels || size != 2*levels-1 {
			t.Errorf("%d levels: Levels %d, Size %d", levels, l, size)
		}
	}
	odd := api.Node{Op: -7, L: []api.Node{{}, {L: []api.Node{{Op: 99}}}, {}}}
	if parse.Levels(odd) != 3 || parse.Size(odd.L) != 4 || parse.Levels(api.Node{L: []api.Node{}}) != 1 {
		t.Error("trees that come from no source")
	}
}

// P3.4
func TestSame(t *testing.T) {
	n := api.Node{Op: api.EBin, N: api.Add, S: "s", L: []api.Node{{Op: api.ENum, N: 1}, {Op: api.ECall, L: []api.Node{{Op: api.EName, S: "f"}}}}, At: 5}
	changes := []func(*api.Node){
		func(n *api.Node) { n.Op++ }, func(n *api.Node) { n.N = api.Sub }, func(n *api.Node) { n.S = "" }, func(n *api.Node) { n.L = n.L[:1] }, func(n *api.Node) { n.L = nil },
		func(n *api.Node) { n.L = append(slices.Clone(n.L), api.Node{}) }, func(n *api.Node) { n.L = []api.Node{n.L[1], n.L[0]} }, func(n *api.Node) { n.L = []api.Node{{Op: api.ENum, N: 2}, n.L[1]} },
		func(n *api.Node) {
			n.L = []api.Node{n.L[0], {Op: api.ECall, L: []api.Node{{Op: api.EName, S: "g"}}}}
		},
	}
	for i, change := range changes {
		other := n
		change(&other)
		if parse.SameNode(n, other) || parse.SameNode(other, n) {
			t.Errorf("change %d is the same", i)
		}
		a, b := api.Section{Decls: []api.Node{{}, n}}, api.Section{Decls: []api.Node{{}, other}}
		if parse.Same(a, b) || parse.Same(b, a) || !parse.Same(b, b) {
			t.Errorf("change %d in a section is the same", i)
		}
	}
	moved := n
	moved.At = -1
	moved.L = []api.Node{{Op: api.ENum, N: 1, At: 7, L: []api.Node{}}, n.L[1]}
	if !parse.SameNode(n, moved) || !parse.SameNode(deep(10000), deep(10000)) || parse.SameNode(deep(10000), deep(9999)) || !parse.SameNode(api.Node{}, api.Node{L: []api.Node{}}) {
		t.Error("SameNode")
	}
	if !parse.Same(api.Section{}, api.Section{Decls: []api.Node{}}) || parse.Same(api.Section{}, api.Section{Name: "s"}) || parse.Same(api.Section{}, api.Section{Decls: []api.Node{{}}}) || !parse.Same(api.Section{Name: "s", Decls: []api.Node{n}}, api.Section{Name: "s", Decls: []api.Node{moved}}) {
		t.Error("Same")
	}
}

// P3.4
func TestProc(t *testing.T) {
	s, _, _ := parse.Parse("manifest{f=1}let g(f)=1 let f(a)=a+1 and f()be{let f=1}let h()=2")
	n, err := parse.Proc(s, "f")
	if want := "24proc\"f\"(30name\"a\" 33bin4(33name\"a\" 35num1))"; tell(n) != want || err != api.OK {
		t.Errorf("Proc: %s, error %d; want %s", tell(n), err, want)
	}
	before := tellSection(s)
	n.L[0].S, n.L[1].L[0].S = "x", "y"
	if tellSection(s) != before {
		t.Error("what Proc returns shares memory with the section")
	}
	for _, name := range []string{"a", "", "F", "start", "ff"} {
		if n, err := parse.Proc(s, name); err != api.ErrNone || tell(n) != tell(api.Node{}) {
			t.Errorf("Proc of %q: %s, error %d", name, tell(n), err)
		}
	}
	if _, err := parse.Proc(api.Section{}, "f"); err != api.ErrNone {
		t.Errorf("Proc of nothing: error %d", err)
	}
	odd := api.Section{Decls: []api.Node{{Op: api.DManifest, S: "f"}, {Op: api.DConst, S: "f"}, {Op: api.DProc, S: "?", N: 7, L: []api.Node{deep(9999)}}, {Op: api.DManifest, L: []api.Node{{Op: api.DProc, S: "f"}}}}}
	if _, err := parse.Proc(odd, "f"); err != api.ErrNone {
		t.Errorf("Proc of no procedure: error %d", err)
	}
	if n, err := parse.Proc(odd, "?"); err != api.OK || n.N != 7 || parse.Levels(n) != 10000 {
		t.Errorf("Proc of a deep tree: %d levels, error %d", parse.Levels(n), err)
	}
}

// P3.4
func TestNames(t *testing.T) {
	for src, want := range map[string]string{
		"": "", "break": "", "a:b:": "", "goto a": "", "a:=b": "a b", "b,a:=a,b": "b a", "f(x,f,y)": "f x y", "g(a)(b)": "g a b", "c!a:=b": "c a b", "a->b,c:=d": "a b c d", "for i=a to b by c do d()": "a b c d", "for i=i to 1 do": "i", "{let v=vec n;let a,b=c,a}": "n a b c", "l:{v();l()}": "v l", "f() repeatwhile a": "f a", "switchon a into{case c:b();default:d()}": "a c b d", "resultis table(z,y,z)": "z y", "resultis valof{x();resultis\"a\"}": "x", "resultis a of b%c": "a b c",
	} {
		n, err, _ := parse.Command(src)
		if got := strings.Join(parse.Names(n), " "); got != want || err != api.OK {
			t.Errorf("Names of %q: %q, error %d; want %q", src, got, err, want)
		}
	}
	s, _, _ := parse.Parse("let f(b,a)=a+g")
	if got := strings.Join(parse.Names(s.Decls[0]), " "); got != "b a g" {
		t.Errorf("Names of a procedure: %q", got)
	}
	if got := strings.Join(parse.Names(deep(10000)), " "); got != "last other" {
		t.Errorf("Names of a deep tree: %q", got)
	}
	odd := api.Node{Op: api.EName, S: "b", L: []api.Node{{Op: api.EName, At: 9}, {Op: api.EStr, S: "x"}, {Op: 0, S: "y", L: []api.Node{{Op: api.EName, S: "A", At: 3}, {Op: api.EName, S: "b"}}}}}
	if got := parse.Names(odd); !slices.Equal(got, []string{"b", "", "A"}) {
		t.Errorf("Names of an odd tree: %q", got)
	}
}
