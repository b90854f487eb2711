package trans_test

import (
	"slices"
	"testing"

	"bluebell/api"
	"bluebell/parse"
	"bluebell/trans"
)

func mustParse(t *testing.T, src string) api.Section {
	t.Helper()
	s, err, at := parse.Parse(src)
	if err != api.OK {
		t.Fatalf("Parse(%q): error %d at %d", src, err, at)
	}
	return s
}

func wantCounts(t *testing.T, src string, want ...int) {
	t.Helper()
	if l, err := trans.Count(mustParse(t, src)); err != api.OK || !slices.Equal(l, want) {
		t.Errorf("Count(%q): %v, error %d; want %v", src, l, err, want)
	}
}

// P7.3
func TestCount(t *testing.T) {
	wantCounts(t, "")
	wantCounts(t, "static { s = 1 } global { g : 20 }")
	wantCounts(t, "let f() be { }", 2)
	wantCounts(t, "let f() = 1", 3)
	wantCounts(t, "let f() be if f do f() static { s = 1 } let g(a, b) be { } let start() be switchon 1 into { case 1 : case 2 : }", 10, 2, 12)
}

func wantCross(t *testing.T, src string, want ...[2]int) {
	t.Helper()
	if l, err := trans.Cross(mustParse(t, src)); err != api.OK || !slices.Equal(l, want) {
		t.Errorf("Cross(%q): %v, error %d; want %v", src, l, err, want)
	}
}

// P7.3
func TestCross(t *testing.T) {
	wantCross(t, "")
	wantCross(t, "let f() = 1 let g() = wrch + s static { s = 1 }")
	wantCross(t, "let f() = f", [2]int{1, 1})
	wantCross(t, "let f() = g + f + g + f + start let g() = f", [2]int{1, 2}, [2]int{1, 1}, [2]int{2, 1})
	wantCross(t, "let f() = g(f, f()) let g(f) = f() + h global { h : 20 }", [2]int{1, 1}, [2]int{1, 2})
	wantCross(t, "let h() = start let f() = g + h + g let start() = h(f()) let g() = h global { h : 20 ; g : 21 ; i : 22 }", [2]int{1, 3}, [2]int{2, 4}, [2]int{2, 1}, [2]int{3, 2}, [2]int{3, 1}, [2]int{4, 1})
	wantCross(t, "let f() be { i := 1 ; f(@ i, i, 2, table(2), 1) } let g() = 2 global { i : 20 }", [2]int{1, 1})
	wantCross(t, "let f() be { return ; g() } let g() = 2", [2]int{1, 2})
	wantCross(t, "let f() be { let g = 1 ; g() ; { let f = 2 ; f() } } let g() = 2")
}
