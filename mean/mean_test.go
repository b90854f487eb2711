package mean_test

import (
	"fmt"
	"strconv"
	"strings"
	"testing"

	"bluebell/api"
	"bluebell/mean"
	"bluebell/parse"
	"bluebell/scope"
)

// helpers are what programs use: w writes a number.
const helpers = ` static { st = 5 } global { h : 20 }
let w(n) be { if n < 0 do { wrch('-') ; n := - n } ; if n > 9 do w(n / 10) ; wrch('0' + n rem 10) }
let f(x) be { } let g(x) = x let q() = 1
let u() be { wrch(' ') ; w(st) } let local(x) = @ x let vector() = valof { let v = vec 3 ; resultis v } let up() = valof { let t = table(1) ; ! t := ! t + 1 ; resultis ! t }`

const plenty = 100000

var forms = []api.Form{{Bits: 16}, {Bits: 16, Big: true}, {Bits: 24}, {Bits: 24, Big: true}, {Bits: 32}, {Bits: 32, Big: true}}

func times(s string, n int) string { return strings.Repeat(s, n) }

func mustParse(t *testing.T, src string) api.Section {
	t.Helper()
	s, err, place := parse.Parse(src)
	if err != api.OK {
		t.Fatalf("Parse(%.300q): error %d at %d", src, err, place)
	}
	if err := scope.Whole(s); err != api.OK {
		t.Fatalf("Whole(%.300q): error %d", src, err)
	}
	return s
}

func show(r api.Result) string {
	return fmt.Sprintf("{%.300q, end %d, code %d, why %d, %d steps}", r.Out, r.End, r.Code, r.Why, r.Steps)
}

// body makes a program of what start does, with helpers beside it.
func body(commands string) string {
	return "let start() be { " + commands + " }" + helpers
}

// wantRun looks at how a program ends by forms, its steps aside.
func wantRun(t *testing.T, src, input string, want api.Result, by ...api.Form) {
	t.Helper()
	s := mustParse(t, src)
	for _, f := range by {
		r, _, err := mean.Run(s, f, input, plenty)
		want.Steps = r.Steps
		if err != api.OK || r != want {
			t.Errorf("Run(%.300q) by %v: %s, error %d; want %s", src, f, show(r), err, show(want))
		}
		tame, err := mean.Tame(s, f, input, plenty)
		if err != api.OK || tame != (want.End == api.Done || want.End == api.Stopped) {
			t.Errorf("Tame(%.300q) by %v: %t, error %d", src, f, tame, err)
		}
	}
}

// wantOut looks by all forms at programs that are done; each is the commands of start, and what is written.
func wantOut(t *testing.T, pairs ...string) {
	t.Helper()
	for i := 0; i < len(pairs); i += 2 {
		wantRun(t, body(pairs[i]), "", api.Result{Out: pairs[i+1]}, forms...)
	}
}

// wantWild looks by all forms at commands of start that are wild behind writing a dot.
func wantWild(t *testing.T, commands ...string) {
	t.Helper()
	for _, c := range commands {
		wantRun(t, body(c+" ; wrch('!')"), "", api.Result{Out: ".", End: api.Wild}, forms...)
	}
}

// wantSteps looks at how many steps a program takes that is done.
func wantSteps(t *testing.T, src string, want int) {
	t.Helper()
	s := mustParse(t, src)
	for _, f := range forms[1:3] {
		r, _, err := mean.Run(s, f, "", plenty)
		if err != api.OK || r.Steps != want || r.End != api.Done {
			t.Errorf("Run(%.300q): %s, error %d; want %d steps", src, show(r), err, want)
		}
		r, _, err = mean.Run(s, f, "", want)
		if err != api.OK || r.Steps != want || r.End != api.Done {
			t.Errorf("Run(%.300q) with fuel %d: %s, error %d", src, want, show(r), err)
		}
		r, _, err = mean.Run(s, f, "", want-1)
		if err != api.OK || r.Steps != want-1 || r.End != api.Fuel {
			t.Errorf("Run(%.300q) with fuel %d: %s, error %d", src, want-1, show(r), err)
		}
	}
}

// P5.1: the chapter's examples, and all ends.
func TestEnds(t *testing.T) {
	wantRun(t, "let start() be wrch('A')", "", api.Result{Out: "A"}, forms...)
	wantRun(t, "let start() be { let v = vec 1 ; v ! 2 := 0 }", "", api.Result{End: api.Wild}, forms...)
	wantRun(t, "let start() = 5", "", api.Result{}, forms...)
	wantRun(t, "let start() = ?", "", api.Result{}, forms...)
	wantRun(t, "let start() be { wrch('A') ; stop(7) ; wrch('B') }", "", api.Result{Out: "A", End: api.Stopped, Code: 7}, forms...)
	wantRun(t, "let start() be f() let f() = stop(- 7) + 1", "", api.Result{End: api.Stopped, Code: -7}, forms...)
	wantRun(t, "let start() be stop(65535)", "", api.Result{End: api.Stopped, Code: -1}, forms[:2]...)
	wantRun(t, "let start() be stop(65535)", "", api.Result{End: api.Stopped, Code: 65535}, forms[2:]...)
	wantRun(t, "let start() be { wrch('A') ; finish ; wrch('B') }", "", api.Result{Out: "A", End: api.Stopped}, forms...)
	wantRun(t, "let start() be wrch(valof { finish })", "", api.Result{End: api.Stopped}, forms...)
	wantRun(t, "let start() be { wrch('A') ; { } repeat }", "", api.Result{Out: "A", End: api.Fuel}, forms...)
	wantRun(t, "let start() be { wrch('A') ; wrch(1 / 0) }", "", api.Result{Out: "A", End: api.Fault, Why: api.ErrZero}, forms...)
	wantRun(t, "let start() be { wrch('A') ; wrch(1 rem (2 - 2)) }", "", api.Result{Out: "A", End: api.Fault, Why: api.ErrZero}, forms...)
	wantRun(t, "let start() be { wrch('A') ; muldiv(1, 2, 0) }", "", api.Result{Out: "A", End: api.Fault, Why: api.ErrZero}, forms...)
	wantRun(t, "let start() be { wrch('A') ; start() }", "", api.Result{Out: times("A", api.MaxCalls), End: api.Fault, Why: api.ErrRoom}, forms...)
	wantRun(t, "let start() be { wrch('A') ; wrch(?) }", "", api.Result{Out: "A", End: api.Wild}, forms...)
}

// P5.1: as many bytes as may be written, and one more.
func TestOutput(t *testing.T) {
	s := mustParse(t, "let start() be for i = 1 to 200 do for k = 1 to 1000 do wrch(i) let f() be { }")
	more := mustParse(t, "let start() be { for i = 1 to 200 do for k = 1 to 1000 do wrch(i) ; wrch('x') ; stop(1) }")
	r, narrow, err := mean.Run(s, api.Form{Bits: 16}, "", 3000000)
	if err != api.OK || r.End != api.Done || len(r.Out) != api.MaxOutput || !narrow {
		t.Errorf("%d bytes, end %d, error %d", len(r.Out), r.End, err)
	}
	over, _, err := mean.Run(more, api.Form{Bits: 16}, "", 3000000)
	if err != api.OK || over.End != api.Fault || over.Why != api.ErrLimit || over.Out != r.Out {
		t.Errorf("%d bytes, end %d, why %d, error %d", len(over.Out), over.End, over.Why, err)
	}
}

// P5.1: the errors, in their order.
func TestErrors(t *testing.T) {
	done := mustParse(t, "let start() be { }")
	section := func(src string) api.Section {
		s, err, _ := parse.Parse(src)
		if err != api.OK {
			t.Fatalf("Parse(%q): error %d", src, err)
		}
		return s
	}
	good, bad := api.Form{Bits: 24, Big: true}, api.Form{Bits: 17}
	great := times("x", api.MaxInput+1)
	for _, x := range []struct {
		s     api.Section
		f     api.Form
		input string
		fuel  int
		want  api.Errno
	}{
		{done, good, "", 5, api.OK}, {done, good, great[1:], api.MaxSteps, api.OK}, {done, good, "", 0, api.OK},
		{api.Section{Decls: []api.Node{{}}}, bad, great, -1, api.ErrForm},
		{section("let start() be x()"), bad, great, -1, api.ErrNone},
		{section("let start() be break"), bad, great, -1, api.ErrPlace},
		{section("let start(a) be { }"), bad, great, -1, api.ErrStart},
		{section(""), good, "", 1, api.ErrStart},
		{done, bad, great, -1, api.ErrForm}, {done, api.Form{}, "", 1, api.ErrForm}, {done, api.Form{Bits: 64}, "", 1, api.ErrForm},
		{done, good, great, -1, api.ErrLimit}, {done, good, great, 1, api.ErrLimit},
		{done, good, "", -1, api.ErrRange}, {done, good, "", api.MaxSteps + 1, api.ErrRange}, {done, good, great[1:], -1 << 62, api.ErrRange},
	} {
		r, narrow, err := mean.Run(x.s, x.f, x.input, x.fuel)
		if err != x.want || err != api.OK && (narrow || r != api.Result{}) {
			t.Errorf("Run(%v, %v, .., %d): %s, %t, error %d; want %d", x.s, x.f, x.fuel, show(r), narrow, err, x.want)
		}
		tame, err := mean.Tame(x.s, x.f, x.input, x.fuel)
		if err != x.want || err != api.OK && tame {
			t.Errorf("Tame(%v, %v, .., %d): %t, error %d; want %d", x.s, x.f, x.fuel, tame, err, x.want)
		}
		l, err := mean.Trace(x.s, x.f, x.input, x.fuel)
		if err != x.want || err != api.OK && l != nil {
			t.Errorf("Trace(%v, %v, .., %d): %v, error %d; want %d", x.s, x.f, x.fuel, l, err, x.want)
		}
	}
}

// P5.1: a run that needs more steps than it may take is not tame.
func TestTameNeedsFuel(t *testing.T) {
	s := mustParse(t, "let start() be { wrch(65) ; stop(3) }")
	for fuel, want := range map[int]bool{0: false, 1: false, 8: false, 9: true, 10: true} {
		if tame, err := mean.Tame(s, api.Form{Bits: 16}, "", fuel); tame != want || err != api.OK {
			t.Errorf("Tame with fuel %d: %t, error %d", fuel, tame, err)
		}
	}
}

// Room for calls: as many as there may be at one time, and one more.
func TestCalls(t *testing.T) {
	deep := func(n string) string {
		return "let start() be { f(" + n + ") ; f(" + n + ") ; wrch('A') } let f(n) be if n > 1 do f(n - 1)"
	}
	wantRun(t, deep("59"), "", api.Result{Out: "A"}, forms...)
	wantRun(t, deep("60"), "", api.Result{End: api.Fault, Why: api.ErrRoom}, forms...)
	// A call of a given procedure does not count, and what is wild of a call comes before.
	wantRun(t, "let start() be f(59) let f(n) be test n > 1 then f(n - 1) else wrch('A')", "", api.Result{Out: "A"}, forms...)
	wantRun(t, "let start() be f(59) let f(n) be test n > 1 then f(n - 1) else f()", "", api.Result{End: api.Wild}, forms...)
}

// The words of calls, in programs that have at one time as many as there may be, and one more.
func TestWords(t *testing.T) {
	const start = 2 + 7*10 // DProc, three CBlock, CCall, ECall, EName
	for _, x := range []struct {
		params, args, commands string
		words                  int // of a call of f, without the vectors that fill it up
	}{
		{"", "", "", 2 + 4*10}, // DProc, CBlock, CVec and its size
		{"a, b, c", "1, ?, 3", "", 2 + 3 + 4*10},
		{"", "", "let a, b = 1, 2", 2 + 2 + 4*10},
		{"", "", "let a = 1 ; let a = 2", 2 + 2 + 4*10},
		{"", "", "{ let a = 1 } ; { let a = 2 }", 2 + 2 + 5*10},
		{"", "", "for i = 1 to 0 do", 2 + 2 + 4*10},
		{"x", "1", "for i = 1 to 0 do for k = 1 to 0 do", 2 + 1 + 4 + 5*10},
		{"", "", "if false do { let a = valof { let b, c = 1, 2 ; resultis b } }", 2 + 3 + 9*10},
		{"", "", "let t = table(1)", 2 + 1 + 5*10},
		{"", "", "return", 2 + 4*10},
		{"", "", "{ let v = vec 3 + 4 }", 2 + 9 + 6*10},
	} {
		for over, want := range []api.Result{{Out: "A"}, {End: api.Fault, Why: api.ErrRoom}} {
			vecs, room := "", api.MaxFrame-start-x.words+over
			for ; room > 2000; room -= 1500 {
				vecs += "let v = vec 1498 ; "
			}
			vecs += "let v = vec " + strconv.Itoa(room-2) + " ; "
			src := "let start() be { { { f(" + x.args + ") ; wrch('A') } } } let f(" + x.params + ") be { " + vecs + x.commands + " }"
			wantRun(t, src, "", want, forms...)
		}
	}
	// Even start may have too many; no step begins.
	s := mustParse(t, "let start() be { wrch('A') ; "+times("let v = vec 2000 ; ", 5)+" }")
	if r, _, err := mean.Run(s, forms[0], "", 0); err != api.OK || (r != api.Result{End: api.Fault, Why: api.ErrRoom}) {
		t.Errorf("%s, error %d", show(r), err)
	}
}
