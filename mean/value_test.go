package mean_test

import (
	"slices"
	"testing"

	"bluebell/api"
	"bluebell/mean"
	"bluebell/parse"
)

// P5.2: values by 16, 24 and 32 bits.
func TestValue(t *testing.T) {
	for src, want := range map[string][3]int{
		"1 + 2 * 3": {7, 7, 7}, "true -> 4, 1 / 0": {4, 4, 4}, "false -> !0, - 4": {-4, -4, -4}, "#ffff & 255": {255, 255, 255}, "- 1 >> 12": {15, 4095, 1048575}, "40000": {-25536, 40000, 40000}, "300 * 300": {24464, 90000, 90000}, "#7fffffff": {-1, -1, 1<<31 - 1}, "#80000000": {0, 0, -1 << 31},
		"32767 + 1": {-32768, 32768, 32768}, "true": {-1, -1, -1}, "false": {0, 0, 0}, "'a'": {97, 97, 97}, "- 7 / 2": {-3, -3, -3}, "(- 7) rem 2": {-1, -1, -1}, "7 eqv 1 xor 4": {-3, -3, -3}, "~ 5 | 2": {-6, -6, -6}, "1 < 2": {-1, -1, -1}, "1 >= 2": {0, 0, 0}, "1 << 15": {-32768, 32768, 32768},
		"slct(1, 2, 3)": {3137, 3137, 3137}, "slct(0, 0, 64)": {0, 65536, 65536}, "slct(1 + 1, 2, true -> 3, 4)": {3138, 3138, 3138}, "65536 -> 1, 2": {2, 1, 1}, "65536 = 0": {-1, 0, 0}, "true -> (1 -> (2 -> 3, ?), ?), ?": {3, 3, 3}, "0 -> (true -> 1, ! 1) of 0, 6": {6, 6, 6},
	} {
		n, err, _ := parse.Expr(src)
		if err != api.OK {
			t.Fatalf("Expr(%q): error %d", src, err)
		}
		for i, f := range forms {
			if v, err := mean.Value(n, f); v != want[i/2] || err != api.OK {
				t.Errorf("Value(%q) by %v = %d, error %d; want %d", src, f, v, err, want[i/2])
			}
		}
	}
}

// P5.2: the errors of what an expression means.
func TestValueErrors(t *testing.T) {
	for src, want := range map[string]api.Errno{
		"a": api.ErrNone, "1 + a": api.ErrNone, "a()": api.ErrNone, "1(2)": api.ErrNone, "valof { }": api.ErrNone, "\"a\"": api.ErrNone, "table(1)": api.ErrNone, "rdch": api.ErrNone, "true -> 1, a": api.ErrNone, "1 / 0 + a": api.ErrNone, "! 1 + a": api.ErrNone, "@ 1 + \"a\"": api.ErrNone, "slct(17, 0, a)": api.ErrNone, "@ a": api.ErrNone, "a of 1": api.ErrNone, "slct(1, valof { 1() }, 1)": api.ErrNone,
		"1 / 0": api.ErrZero, "1 rem (2 - 2)": api.ErrZero, "1 / 0 + ?": api.ErrZero, "1 / 0 -> ?, ?": api.ErrZero, "! (1 / 0)": api.ErrZero, "5 ! (1 / 0)": api.ErrZero, "(1 / 0) % ?": api.ErrZero, "0 of (1 / 0)": api.ErrZero, "@ (1 ! (1 / 0))": api.ErrZero, "@ (! (1 / 0))": api.ErrZero, "- (1 / 0)": api.ErrZero, "1 / (65536 * 0)": api.ErrZero, "? + 1 / 0": api.ErrZero, "1 + (2 + 1 / 0 * ?)": api.ErrZero,
		"?": api.ErrState, "? + 1": api.ErrState, "- ?": api.ErrState, "? -> 1, 2": api.ErrState, "! 1": api.ErrState, "1 ! 2": api.ErrState, "1 % 2": api.ErrState, "@ (1 ! 2)": api.ErrState, "@ (! 1)": api.ErrState, "0 of 1": api.ErrState, "? / 0": api.ErrState, "! 1 + 1 / 0": api.ErrState, "true -> ?, 1": api.ErrState, "(? + 1) + 1 / 0": api.ErrState,
		// What scope would refuse, before anything is computed.
		"@ 1": api.ErrState, "@ ?": api.ErrState, "@ (1 + 2)": api.ErrState, "@ (1 % 2)": api.ErrState, "@ (0 of 1)": api.ErrState, "@ (@ (! 1))": api.ErrState, "1 / 0 + @ 1": api.ErrState, "true -> 1, @ 1": api.ErrState, "slct(17, 0, 0)": api.ErrState, "1 / 0 + slct(17, 0, 0)": api.ErrState, "true -> 1, slct(0, 0, 256)": api.ErrState, "slct(? , 0, 0)": api.ErrState, "slct(1 / 0, 0, 0)": api.ErrState, "slct(0, - 1, 0)": api.ErrState,
		"1 / 0 + (? of 1)": api.ErrState, "(1 / 0) of 1": api.ErrState, "17 of (1 / 0)": api.ErrState, "(- 1) of (1 / 0)": api.ErrState, "(! 1) of (1 / 0)": api.ErrState, "262144 of (1 / 0)": api.ErrState, "true -> 1, 17 of 0": api.ErrState, "(true -> 0, slct(17, 0, 0)) of (1 / 0)": api.ErrState, "slct(1, 1, true -> 1, @ 1)": api.ErrState, "(true -> 0, ? of 1) of (1 / 0)": api.ErrState,
	} {
		n, err, _ := parse.Expr(src)
		if err != api.OK {
			t.Fatalf("Expr(%q): error %d", src, err)
		}
		for _, f := range forms {
			if v, err := mean.Value(n, f); v != 0 || err != want {
				t.Errorf("Value(%q) by %v = %d, error %d; want %d", src, f, v, err, want)
			}
		}
	}
	// By words.
	n, _, _ := parse.Expr("1 / 65536")
	for i, f := range forms {
		want := api.OK
		if i < 2 {
			want = api.ErrZero
		}
		if v, err := mean.Value(n, f); v != 0 || err != want {
			t.Errorf("Value by %v = %d, error %d; want %d", f, v, err, want)
		}
	}
}

// P5.2: errors of the tree and of the form come first.
func TestValueOfWrongTrees(t *testing.T) {
	one := api.Node{Op: api.ENum, N: 1}
	deep := one
	for range api.MaxNest - 1 {
		deep = api.Node{Op: api.EUn, N: api.Neg, L: []api.Node{deep}}
	}
	good, bad := api.Form{Bits: 24, Big: true}, api.Form{Bits: 25}
	for _, x := range []struct {
		n    api.Node
		f    api.Form
		v    int
		want api.Errno
	}{
		{api.Node{}, bad, 0, api.ErrForm}, {api.Node{}, good, 0, api.ErrForm}, {api.Node{Op: api.CNull}, good, 0, api.ErrForm}, {api.Node{Op: api.ENum, N: 1 << 31}, good, 0, api.ErrForm}, {api.Node{Op: api.EUn, N: api.Add, L: []api.Node{one}}, good, 0, api.ErrForm}, {api.Node{Op: api.EAddr}, good, 0, api.ErrForm}, {api.Node{Op: api.ESel, L: []api.Node{one}}, good, 0, api.ErrForm},
		{api.Node{Op: api.ETable, L: slices.Repeat([]api.Node{one}, api.MaxString+1)}, bad, 0, api.ErrLimit}, {api.Node{Op: api.EUn, N: api.Neg, L: []api.Node{deep}}, bad, 0, api.ErrDeep},
		{deep, good, -1, api.OK}, {deep, bad, 0, api.ErrForm}, {api.Node{Op: api.EName, S: "a"}, bad, 0, api.ErrForm}, {api.Node{Op: api.EAny}, api.Form{}, 0, api.ErrForm}, {one, api.Form{Bits: -16}, 0, api.ErrForm}, {one, good, 1, api.OK},
	} {
		if v, err := mean.Value(x.n, x.f); v != x.v || err != x.want {
			t.Errorf("Value(%.200v, %v) = %d, error %d; want %d, %d", x.n, x.f, v, err, x.v, x.want)
		}
	}
}

// P5.3: calls are told when they begin.
func TestTrace(t *testing.T) {
	for src, want := range map[string][]string{
		"let start() be": {"start"}, "let start() be { f(1) ; wrch(65) ; stop(0) } let f(x) be g() let g() = getvec(1)": {"start", "f", "g", "getvec", "wrch"}, "let start() be { f(g(1), h()) ; let p = g ; p(2) } let f(a, b) be { } let g(x) = x let h() = 1": {"start", "g", "h", "f", "g"},
		"let start() be { muldiv(rdch(), rdch(), 2) ; freevec(getvec(3)) ; finish }": {"start", "rdch", "rdch", "muldiv", "getvec", "freevec"}, "let start() be { f() ; f() } let f() be static { n = 1 } global { f : 20 }": {"start", "f", "f"}, "let start() be { if m do { m := 0 ; start() } } static { m = 1 }": {"start", "start"},
		// Calls that end the run do not begin.
		"let start() be { rdch() ; f(1) } let f() be": {"start", "rdch"}, "let start() be { rdch() ; wrch(?) }": {"start", "rdch"}, "let start() be { rdch() ; wrch() }": {"start", "rdch"}, "let start() be { rdch() ; muldiv(1, 1, 0) }": {"start", "rdch"}, "let start() be { rdch() ; freevec(1) }": {"start", "rdch"}, "let start() be { rdch() ; createco(start, 1) }": {"start", "rdch"}, "let start() be { rdch() ; stop(1) }": {"start", "rdch"}, "let start() be { rdch() ; stop(?) }": {"start", "rdch"}, "let start() be { f(1) ; f(1 / 0) } let f(x) be": {"start", "f"},
		"let start() be { f() ; let v = vec 2000 } let f() be { let v = vec 1900 ; let v = vec 1900 ; let v = vec 1900 }": {"start"}, "let start() be { let v = vec 2000 ; let v = vec 2000 ; let v = vec 2000 ; let v = vec 2000 }": nil,
	} {
		for _, f := range forms {
			if l, err := mean.Trace(mustParse(t, src), f, "ab", 1000); !slices.Equal(l, want) || err != api.OK {
				t.Errorf("Trace(%q) by %v: %q, error %d; want %q", src, f, l, err, want)
			}
		}
	}
	// With the fuel that there is.
	s := mustParse(t, "let start() be { f() ; g() } let f() be let g() be")
	for fuel, want := range [][]string{{"start"}, {"start"}, {"start"}, {"start"}, {"start", "f"}, {"start", "f"}, {"start", "f"}, {"start", "f"}, {"start", "f", "g"}, {"start", "f", "g"}} {
		if l, err := mean.Trace(s, forms[0], "", fuel); !slices.Equal(l, want) || err != api.OK {
			t.Errorf("Trace with fuel %d: %q, error %d; want %q", fuel, l, err, want)
		}
	}
}

// P5.3: at most 1000 names.
func TestLongTrace(t *testing.T) {
	for n, want := range map[int][]string{997: {"start", "f", "rdch", "wrch"}, 998: {"start", "f", "rdch"}, 999: {"start", "f"}, 1000: {"start", "f"}, 3000: {"start", "f"}} {
		s := mustParse(t, "let start() be { for i = 1 to "+digits(n)+" do f() ; rdch() ; wrch(1) } let f() be")
		l, err := mean.Trace(s, forms[0], "", plenty)
		if err != api.OK || len(l) != 1000 || !slices.Equal(slices.Compact(slices.Clone(l)), want) {
			t.Errorf("%d calls of f: %d names, %q, error %d", n, len(l), slices.Compact(l), err)
		}
	}
}
