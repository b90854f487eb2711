package scope_test

import (
	"math"
	"slices"
	"testing"

	"bluebell/api"
	"bluebell/parse"
	"bluebell/scope"
)

// The given names, in order; each call's list is its own.
func TestGiven(t *testing.T) {
	want := []string{"start", "rdch", "wrch", "stop", "getvec", "freevec", "muldiv", "createco", "callco", "cowait", "deleteco"}
	for range 2 {
		l := scope.Given()
		if !slices.Equal(l, want) {
			t.Errorf("Given: %q", l)
		}
		clear(l)
	}
}

func wantTops(t *testing.T, src string, want ...scope.Top) {
	t.Helper()
	l, err := scope.Tops(mustParse(t, src))
	if err != api.OK || !slices.Equal(l, want) {
		t.Errorf("Tops(%q) = %v, error %d; want %v", src, l, err, want)
	}
}

func manifest(name string, n int) scope.Top {
	return scope.Top{Name: name, Kind: scope.Manifest, N: n}
}
func static(name string, n int) scope.Top {
	return scope.Top{Name: name, Kind: scope.Static, N: n}
}
func global(name string, n int) scope.Top {
	return scope.Top{Name: name, Kind: scope.Global, N: n}
}
func proc(name string, n, global int) scope.Top {
	return scope.Top{Name: name, Kind: scope.Proc, N: n, Global: global}
}

// P4.2
func TestTops(t *testing.T) {
	wantTops(t, "")
	wantTops(t, "section \"s\" manifest { } static { } global { }")
	wantTops(t, "manifest { a = 5 ; b = - a } manifest { c = a * b + 1 }", manifest("a", 5), manifest("b", -5), manifest("c", -24))
	wantTops(t, "manifest { a = #7fffffff + 1 ; b = a - 1 ; c = true ; d = 1 << 31 ; e = 1 >> 1 }", manifest("a", -1<<31), manifest("b", 1<<31-1), manifest("c", -1), manifest("d", -1<<31), manifest("e", 0))
	wantTops(t, "static { a = 7 ; b = 8 } let f() = 1 static { c = 9 }", static("a", 0), static("b", 1), proc("f", 1, 0), static("c", 2))
	wantTops(t, "global { a : 12 ; b : 199 } manifest { n = 20 } global { c : n + 1 }", global("a", 12), global("b", 199), manifest("n", 20), global("c", 21))
	wantTops(t, "let f() = 1 and g(a) be { let b = 1 } let h() = 1", proc("f", 1, 0), proc("g", 2, 0), proc("h", 3, 0))
	wantTops(t, "let f() = 1 let start() = 2 let g() = 3 global { g : 20 ; x : 21 ; f : 22 }", proc("f", 1, 22), proc("start", 2, 1), proc("g", 3, 20), global("g", 20), global("x", 21), global("f", 22))
	wantTops(t, "static { s = 12 } global { s2 : 13 } let start(s, s2) = s", static("s", 0), global("s2", 13), proc("start", 1, 1))
}

// P4.2
func TestFind(t *testing.T) {
	l := []scope.Top{global("f", 20), manifest("m", 3), proc("f", 1, 20), proc("start", 2, 1), static("rdch", 4), {Name: "none"}}
	for _, want := range []scope.Top{l[0], l[1], l[3], l[4], l[5], global("wrch", 3)} {
		if got, ok := scope.Find(l, want.Name); !ok || got != want {
			t.Errorf("Find(%q) = %v, %t; want %v", want.Name, got, ok, want)
		}
	}
	for i, name := range scope.Given() {
		if got, ok := scope.Find(nil, name); !ok || got != global(name, i+1) {
			t.Errorf("Find(%q) = %v, %t", name, got, ok)
		}
	}
	for _, name := range []string{"", "x", "m1", "M", "deletecos", "m "} {
		if got, ok := scope.Find(l, name); ok || got != (scope.Top{}) {
			t.Errorf("Find(%q) = %v, %t", name, got, ok)
		}
	}
	if got, ok := scope.Find(l[:1], "m"); ok || got != (scope.Top{}) {
		t.Errorf("Find beyond the list: %v, %t", got, ok)
	}
}

func wantValue(t *testing.T, l []scope.Top, src string, want int, wantErr api.Errno) {
	t.Helper()
	n, err, place := parse.Expr(src)
	if err != api.OK {
		t.Fatalf("Expr(%q): error %d at %d", src, err, place)
	}
	if v, err := scope.Eval(n, l); v != want || err != wantErr {
		t.Errorf("Eval(%q) = %d, error %d; want %d, %d", src, v, err, want, wantErr)
	}
}

// P4.3
func TestEval(t *testing.T) {
	l := []scope.Top{manifest("a", 2), static("s", 3), global("g", 20), proc("p", 1, 0), static("both", 7), manifest("both", 9), manifest("a", 5), {Name: "none", N: 1}, manifest("great", 1<<32+6), manifest("rdch", 8), {Name: "odd", Kind: 9, N: 1}}
	for src, want := range map[string]int{
		"7": 7, "true": -1, "false": 0, "a": 2, "both": 9, "great": 6, "rdch": 8, "a * (both + 1)": 20, "- a": -2, "~ a": -3, "7 / 2": 3, "- 7 / 2": -3, "(- 7) rem 2": -1, "a = 2": -1, "a ~= 2": 0, "a < both": -1, "a >= both": 0, "a <= 2": -1, "a > 2": 0,
		"a xor 3": 1, "a eqv 3": -2, "a | 5": 7, "both & 8": 8, "1 << 31": -1 << 31, "1 << 32": 0, "#80000000 >> 31": 1, "#7fffffff + 1": -1 << 31, "#80000000 / (- 1)": -1 << 31, "65536 * 65536": 0, "#80000000 rem (- 1)": 0,
		"a -> 3, 4": 3, "0 -> 3, 4": 4, "true -> 1, x": 1, "false -> s / 0, a": 2, "a -> (0 -> f(), 6), 1 / 0": 6, "slct(a, 1, 3)": 2 + 32 + 3072, "slct(0, 0, 0)": 0, "slct(16, 0, 255)": 16 + 255*1024, "slct(8, 8, 1) + 1": 8 + 256 + 1024 + 1, "slct(both - 1, a, a)": 8 + 64 + 2048,
	} {
		wantValue(t, l, src, want, api.OK)
	}
	for src, want := range map[string]api.Errno{
		"x": api.ErrConst, "s": api.ErrConst, "g": api.ErrConst, "p": api.ErrConst, "none": api.ErrConst, "odd": api.ErrConst, "wrch": api.ErrConst, "start": api.ErrConst, "?": api.ErrConst, "\"a\"": api.ErrConst, "a(1)": api.ErrConst, "a ! 0": api.ErrConst, "a % 0": api.ErrConst, "! a": api.ErrConst, "@ a": api.ErrConst, "valof { resultis 1 }": api.ErrConst, "table(1)": api.ErrConst, "1 of a": api.ErrConst,
		"1 / 0": api.ErrZero, "1 rem (a - 2)": api.ErrZero, "1 / 0 + x": api.ErrZero, "x + 1 / 0": api.ErrConst, "x / 0": api.ErrConst, "1 / 0 -> x, x": api.ErrZero, "a -> 1 / 0, x": api.ErrZero, "a -> x, 1 / 0": api.ErrConst,
		"slct(17, 0, 0)": api.ErrRange, "slct(0, 17, 0)": api.ErrRange, "slct(9, 8, 0)": api.ErrRange, "slct(0, 0, 256)": api.ErrRange, "slct(- 1, 0, 0)": api.ErrRange, "slct(0, - 1, 0)": api.ErrRange, "slct(0, 0, - 1)": api.ErrRange, "slct(17, 0, x)": api.ErrConst, "slct(1 / 0, x, 256)": api.ErrZero, "slct(17, 0, 0) + x": api.ErrRange, "x + slct(17, 0, 0)": api.ErrConst, "slct(slct(17, 0, 0), x, 0)": api.ErrRange,
	} {
		wantValue(t, l, src, 0, want)
	}
	wantValue(t, nil, "a", 0, api.ErrConst)
	wantValue(t, l[:0], "a", 0, api.ErrConst)
	wantValue(t, nil, "2 * 3", 6, api.OK)
}

// P4.3: parse.CheckExpr's error comes first.
func TestEvalOfWrongTrees(t *testing.T) {
	one := api.Node{Op: api.ENum, N: 1}
	deep := one
	for range api.MaxNest {
		deep = api.Node{Op: api.EUn, N: api.Not, L: []api.Node{deep}}
	}
	for _, x := range []struct {
		n    api.Node
		want api.Errno
	}{
		{api.Node{}, api.ErrForm}, {api.Node{Op: api.ENum, N: 1 << 31}, api.ErrForm}, {api.Node{Op: api.EBin, N: api.Add, L: []api.Node{one}}, api.ErrForm}, {api.Node{Op: api.EBin, N: api.Neg, L: []api.Node{one, one}}, api.ErrForm}, {api.Node{Op: api.ESlct, L: []api.Node{one, one}}, api.ErrForm}, {api.Node{Op: api.ECond, L: []api.Node{one, one, {}}}, api.ErrForm}, {api.Node{Op: api.CNull}, api.ErrForm}, {api.Node{Op: api.EName}, api.ErrForm}, {api.Node{Op: api.EName, S: "A"}, api.ErrForm},
		{api.Node{Op: api.ETable, L: slices.Repeat([]api.Node{one}, api.MaxString+1)}, api.ErrLimit}, {deep, api.ErrDeep}, {deep.L[0], api.OK},
	} {
		want := 0
		if x.want == api.OK {
			want = ^1
		}
		if v, err := scope.Eval(x.n, nil); err != x.want || v != want {
			t.Errorf("Eval(%.200v) = %d, error %d; want %d, %d", x.n, v, err, want, x.want)
		}
	}
}

// P4.3: each selector comes apart, and nothing else does.
func TestSelector(t *testing.T) {
	count := 0
	for n := -2000; n < 300000; n++ {
		size, shift, offset, err := scope.Selector(n)
		wantSize, wantShift, wantOffset := n&31, n>>5&31, n>>10
		if n >= 0 && wantSize+wantShift <= 16 && wantOffset <= 255 {
			count++
			if size != wantSize || shift != wantShift || offset != wantOffset || err != api.OK {
				t.Fatalf("Selector(%d) = %d, %d, %d, error %d", n, size, shift, offset, err)
			}
		} else if size != 0 || shift != 0 || offset != 0 || err != api.ErrRange {
			t.Fatalf("Selector(%d) = %d, %d, %d, error %d", n, size, shift, offset, err)
		}
	}
	if count != 17*18/2*256 {
		t.Errorf("%d selectors", count)
	}
	for _, n := range []int{math.MinInt, -1 << 31, 1<<31 - 1, 1 << 32, 1<<32 + 1, 1<<40 + 3, math.MaxInt} {
		if size, shift, offset, err := scope.Selector(n); size != 0 || shift != 0 || offset != 0 || err != api.ErrRange {
			t.Errorf("Selector(%d) = %d, %d, %d, error %d", n, size, shift, offset, err)
		}
	}
}
