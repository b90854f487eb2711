package mean_test

import (
	"strconv"
	"strings"
	"testing"

	"bluebell/api"
	"bluebell/mean"
)

// P5.1: bytes of cells.
func TestBytes(t *testing.T) {
	wantOut(t,
		"let s = \"hey\" ; for i = 0 to s % 0 do w(s % i)", "3104101121", "let s = \"\" ; w(s % 0) ; w(s % 1)", "00", "let s = \"*n*t*s***\"\" ; for i = 0 to 5 do { w(s % i) ; wrch(' ') }", "5 10 9 32 42 34 ",
		"let s = \"abc\" ; s % 2 := 'x' ; for i = 1 to s % 0 do wrch(s % i)", "axc", "let v = getvec(5) ; for i = 0 to 11 do v % i := i * 20 ; for i = 0 to 11 do { w(v % i) ; wrch(' ') }", "0 20 40 60 80 100 120 140 160 180 200 220 ",
		"let v = vec 5 ; v % 1 := 300 ; w(v % 1) ; v % 1 := - 1 ; w(v % 1) ; v % 1 := 256 ; w(v % 1)", "442550", "let x = ? ; (@ x) % 1 := 65 ; w((@ x) % 1) ; (@ x) % 0 := 66 ; w((@ x) % 1)", "6565", "(@ h) % 0 := 7 ; w((@ h) % 0)", "7",
		"let v = getvec(3) ; v ! 0 := 1 ; v ! 0 := ? ; v % 0 := 5 ; w(v % 0)", "5", "let v = getvec(9) ; (v + 9) % (- 1) := 4 ; w((v + 9) % (- 1)) ; (v + 5) % (- 9) := 6 ; w((v + 5) % (- 9))", "46", "let v = getvec(12) ; (v + 20) % (- 33) := 4 ; w((v + 20) % (- 33))", "4",
		"let v = getvec(9) ; (v - 1) % 5 := 4 ; w((v - 1) % 5)", "4",
	)
	const items = "let x = ? ; let v, b = getvec(2), getvec(2) ; v ! 1 := 5 ; b % 1 := 5 ; (@ x) % 0 := 1 ; wrch('.') ; "
	for _, use := range []string{
		"v % 12 := 0", "v % (- 1) := 0", "b % 0", "b % 2", "b % 12", "b % (- 1)", "v ! 0 := 1 ; f(v % 0)", "v % 0", "(v + 1) % 0", "(v + 1) % 0 := 1", "(v + 1) % 1 := 1", "(v + 2) % (- 1)", "(v + 2) % (- 1) := 1", "! b", "b ! 0", "b ! 0 := 1", "b ! 0 := ?", "! b := 1", "slct(1, 1, 0) of b", "slct(1, 1, 0) of b := 1",
		"x := 1", "x", "let y = x", "f(x)", "\"abc\" ! 0", "\"abc\" ! 0 := 1", "\"abc\" % 8", "\"abc\" % (- 1)", "\"abc\" % 8 := 1", "(v + 3) % 0 := 1", "table(1) % 0", "table(1) % 0 := 1", "(@ st) % 0 := 1", "w % 0", "5 % 0", "v % v", "for i = 1 to 2 do { (@ i) ! 0 := ? ; (@ i) % 0 := 1 }", "x := @ (x ! 0)",
	} {
		if !strings.Contains(use, ":=") && !strings.Contains(use, "let") && !strings.Contains(use, "f(") {
			use = "f(" + use + ")"
		}
		wantWild(t, items+use)
	}
}

// P5.1: in which cell a byte is, told by whether a word of it can be loaded.
func TestCellsOfBytes(t *testing.T) {
	for _, f := range forms {
		n := f.Bits / 8
		for i := -9; i < 14; i++ {
			cell := 5 // at which the address is
			for k := i; k < 0; k += n {
				cell--
			}
			cell += max(i, 0) / n
			for c := range 13 {
				src := body("let v = getvec(12) ; (v + 5) % (" + digits(i) + ") := 1 ; let x = v ! " + digits(c))
				want := api.Result{}
				if c == cell {
					want.End = api.Wild
				}
				wantRun(t, src, "", want, f)
			}
		}
	}
}

func digits(n int) string {
	return strings.Replace(strconv.Itoa(n), "-", "- ", 1)
}

// P5.1: a string has as many cells as word.Pack gives it; what is behind its bytes is 0.
func TestStringCells(t *testing.T) {
	for length := range 12 {
		for _, f := range forms {
			n := f.Bits / 8
			all := (length + n) / n * n
			for i, want := range map[int]api.Result{length: {}, length + 1: {Out: "0"}, all - 1: {}, all: {End: api.Wild}} {
				if i == length+1 && i >= all {
					continue
				}
				command := "wrch('0' + \"" + times("a", length) + "\" % " + digits(i) + ")"
				r, _, err := mean.Run(mustParse(t, body(command)), f, "", plenty)
				if err != api.OK || r.End != want.End || want.Out != "" && r.Out != want.Out {
					t.Errorf("Run(%q) by %v: %s, error %d", command, f, show(r), err)
				}
			}
		}
	}
}

// P5.1: selectors of words.
func TestSelectors(t *testing.T) {
	wantOut(t,
		"let v = vec 3 ; v ! 0 := 0 ; slct(4, 4, 0) of v := 5 ; w(v ! 0) ; wrch(' ') ; w(slct(4, 4, 0) of v)", "80 5", "let v = vec 3 ; v ! 2 := 511 ; slct(3, 2, 2) of v := 8 + 2 ; w(v ! 2) ; wrch(' ') ; w(slct(3, 2, 2) of v)", "491 2",
		"let v = vec 3 ; v ! 1 := 1234 ; w(slct(0, 0, 1) of v) ; wrch(' ') ; w(slct(0, 3, 1) of v) ; slct(0, 0, 1) of v := 7 ; wrch(' ') ; w(v ! 1)", "1234 154 7", "let v = vec 3 ; v ! 1 := 7 ; slct(0, 2, 1) of v := 5 ; w(v ! 1)", "23", "let x = 255 ; slct(4, 0, 0) of (@ x) := - 1 ; w(x) ; slct(4, 0, 0) of (@ x) := 3 ; w(x)", "255243",
		"let v = getvec(255) ; v ! 255 := 9 ; w(slct(2, 0, 255) of v) ; w(slct(2, 3, 255) of v) ; w(slct(1, 2, 250) of (v + 5))", "110", "w(slct(8, 8, 1) of table(1, 515, 3))", "2", "let v = getvec(1) ; v ! 1 := 0 ; slct(0, 0, 1) of v, slct(1, 0, 1) of v := 4, 1 ; w(v ! 1)", "5",
		"let x = 5 ; slct(0, 16, 0) of (@ x) := 0 ; w(slct(0, 0, 0) of (@ x)) ; w(slct(0, 16, 0) of (@ x))", "50", "let x = 21845 ; w(slct(16, 0, 0) of (@ x)) ; slct(16, 0, 0) of (@ x) := 258 ; w(x)", "21845258",
	)
	// Of a word below 0, and beyond 16 bits.
	src := body("let x = - 1 ; w(slct(0, 4, 0) of (@ x)) ; wrch(' ') ; x := - 2 ; w(slct(16, 0, 0) of (@ x)) ; wrch(' ') ; slct(0, 0, 0) of (@ x) := - 3 ; w(x) ; wrch(' ') ; x := 0 ; slct(8, 8, 0) of (@ x) := 255 ; w(x) ; wrch(' ') ; slct(0, 16, 0) of (@ x) := 1 ; w(x >> 1)")
	wantRun(t, src, "", api.Result{Out: "4095 -2 -3 -256 32640"}, forms[:2]...)
	wantRun(t, src, "", api.Result{Out: "1048575 65534 -3 65280 65408"}, forms[2:4]...)
	wantRun(t, src, "", api.Result{Out: "268435455 65534 -3 65280 65408"}, forms[4:]...)
	wantWild(t,
		"let v = vec 1 ; wrch('.') ; f(slct(1, 1, 0) of v)", "let v = vec 1 ; v ! 0 := 1 ; wrch('.') ; f(slct(1, 1, 1) of v)", "let v = vec 1 ; v ! 0 := v ; wrch('.') ; f(slct(0, 0, 0) of v)", "let v = vec 1 ; v ! 0 := w ; wrch('.') ; f(slct(0, 0, 0) of v)", "let v = vec 1 ; wrch('.') ; f(slct(1, 1, 2) of v)",
		"let v = vec 1 ; wrch('.') ; slct(1, 1, 0) of v := 1", "let v = vec 1 ; wrch('.') ; slct(0, 0, 0) of v := 1", "let v = vec 1 ; v ! 0 := v ; wrch('.') ; slct(0, 0, 0) of v := 1", "let v = vec 1 ; v ! 0 := 1 ; wrch('.') ; slct(0, 0, 0) of v := v", "let v = vec 1 ; v ! 0 := 1 ; wrch('.') ; slct(0, 0, 1) of v := 1", "let v = vec 1 ; v ! 0 := 1 ; wrch('.') ; slct(0, 0, 2) of v := 1", "let v = vec 1 ; v ! 0 := 1 ; wrch('.') ; slct(0, 0, 0) of v := ?",
	)
}

// P5.1: variables, and what they have at first.
func TestVariables(t *testing.T) {
	wantOut(t,
		"w(st) ; st := 8 ; w(st)", "58", "h := 3 ; w(h) ; f(h)", "3", "let x = h ; h := x", "", "let st = 1 ; st := 2 ; w(st) ; u()", "2 5", "let w = f ; w(1) ; u()", " 5", "let rdch = 4 ; w(rdch)", "4",
	)
	wantWild(t, "wrch('.') ; w(h)", "wrch('.') ; h(1)", "wrch('.') ; if h do")
	// A procedure that is a global is it from the beginning; and start may be called by its name.
	wantRun(t, "global { p : 20 ; q : 21 } let start() be { p('a') ; q := p ; q('b') ; test q = p then p('c') else p('d') ; if n = 0 do { n := 1 ; start() } } let p(x) be wrch(x) static { n = 0 }", "", api.Result{Out: "abcabc"}, forms...)
	wantRun(t, "manifest { m = 65 ; k = m + 1 } let start() be { wrch(m) ; wrch(k) ; let m = 67 ; wrch(m) } ", "", api.Result{Out: "ABC"}, forms...)
}

// P5.1: rdch and wrch.
func TestReadAndWrite(t *testing.T) {
	all := ""
	for i := range 256 {
		all += string([]byte{byte(255 - i)})
	}
	wantRun(t, "let start() be { let c = rdch() ; until c < 0 do { wrch(c) ; c := rdch() } ; wrch('0' - rdch()) }", all, api.Result{Out: all + "1"}, forms...)
	wantRun(t, "let start() be { let c = rdch() ; until c < 0 do { wrch(c + 256) ; wrch(c - 256) ; c := rdch() } }", "ab", api.Result{Out: "aabb"}, forms...)
	wantRun(t, "let start() be stop(rdch())", "", api.Result{End: api.Stopped, Code: -1}, forms...)
	wantRun(t, "let start() be stop(rdch())", "\xff", api.Result{End: api.Stopped, Code: 255}, forms...)
}

// P5.1: getvec gives what is left, and nothing comes back.
func TestGetvec(t *testing.T) {
	wantOut(t,
		"let v = getvec(0) ; v ! 0 := 5 ; w(v ! 0)", "5", "w(getvec(- 1)) ; w(getvec(16000)) ; let v = getvec(15999) ; v ! 15999 := 1 ; w(getvec(0))", "000", "w(getvec(- 32768)) ; let v = getvec(15998) ; w(getvec(1)) ; v := getvec(0) ; v ! 0 := 1 ; freevec(v) ; w(getvec(0))", "000",
		"for i = 1 to 1600 do getvec(9) ; w(getvec(0))", "0", "let v, u = getvec(1), getvec(1) ; v ! 0, u ! 0 := 1, 2 ; w(v ! 0) ; w(v = u)", "10",
	)
	wantWild(t, "let v = getvec(2) ; wrch('.') ; v ! 3 := 1", "let v = getvec(2) ; wrch('.') ; w(v ! 0)", "let v = getvec(2) ; wrch('.') ; v ! (- 1) := 1")
}

// P5.1: muldiv.
func TestMuldiv(t *testing.T) {
	wantOut(t, "w(muldiv(300, 200, 7)) ; wrch(' ') ; w(muldiv(- 300, 200, 7)) ; wrch(' ') ; w(muldiv(30000, 30000, - 30000)) ; wrch(' ') ; w(muldiv(0, 5, 3)) ; w(muldiv(7, 1, 8))", "8571 -8571 -30000 00")
	wantRun(t, body("w(muldiv(300, 300, 1))"), "", api.Result{Out: "24464"}, forms[:2]...)
	wantRun(t, body("w(muldiv(300, 300, 1))"), "", api.Result{Out: "90000"}, forms[2:]...)
}
