package mean_test

import (
	"testing"

	"bluebell/api"
	"bluebell/mean"
)

// P5.1: what is computed first, told by what tell writes.
func TestOrder(t *testing.T) {
	const items = "let v, b, x = getvec(20), getvec(20), ? ; for i = 0 to 20 do v ! i := 0 ; for i = 0 to 20 do b % i := 0 ; "
	for use, want := range map[string]string{
		"x := t(1) + t(2)": "12", "x := t(1) - t(2) * t(3)": "123", "x := t(1) & t(2)": "12", "x := 0 & t(2)": "2", "x := t(0) & t(2)": "02", "x := t(1) | t(2)": "12", "x := true | t(2)": "2", "x := t(1) = t(2)": "12", "x := - t(1)": "1",
		"x := v ! t(1)": "1", "x := t(1) ! v": "1", "x := (v + t(1)) ! t(2)": "12", "x := ! (v + t(1))": "1", "x := (b + 0 * t(1)) % t(2)": "12", "x := @ ((v + t(1)) ! t(2))": "12",
		"x := g2(t(1), t(2))": "12", "x := p(t(1))(t(2), t(3))": "231", "x := t(1) -> t(2), t(3)": "12", "x := t(0) -> t(2), t(3)": "03", "x := slct(1, 1, 0) of (v + t(1))": "1",
		"x := t(1)": "1", "(v + t(1)) ! t(2) := t(3)": "312", "! (v + t(1)) := t(2)": "21", "(b + 0 * t(1)) % t(2) := t(3)": "312", "slct(1, 1, 0) of (v + t(1)) := t(2)": "12",
		"v ! t(1), v ! t(2) := t(3), t(4)": "3142", "x, v ! t(1), slct(1, 1, 1) of (v + t(2)) := t(3), t(4), t(5)": "34125", "let a, c = t(1), t(2)": "12", "for i = t(1) to t(2) do t(3)": "1233", "for i = t(2) to t(1) do t(3)": "21", "for i = t(2) to t(1) by - 1 do t(3)": "2133",
		"if t(1) do t(2)": "12", "if t(0) do t(2)": "0", "unless t(1) do t(2)": "1", "unless t(0) do t(2)": "02", "test t(1) then t(2) else t(3)": "12", "test t(0) then t(2) else t(3)": "03", "{ t(1) ; { t(2) ; t(3) } ; t(4) }": "1234",
		"switchon t(1) into { t(2) ; case 1 : t(3) ; default : t(4) ; case 2 : t(5) }": "1345", "x := table(1, 2) ! t(1)": "1", "wrch('0' + t(1))": "11", "t(muldiv(t(1), t(2), t(3)))": "1230",
		"x, v ! 0 := 1, x ; w(v ! 0)": "1", "let a = 1 ; let a, c = 2, a ; w(a) ; w(c)": "21", "x, st := 1, 2 ; x, st := st, x ; w(x) ; w(st)": "22", "v ! 0 := 1 ; v ! (v ! 0) := valof { v ! 0 := 2 ; resultis 7 } ; w(v ! 2)": "7", "v ! 0 := 1 ; slct(4, 4, 0) of v := valof { v ! 0 := 3 ; resultis 1 } ; w(v ! 0)": "19",
		"for i = 1 to st do st := 7 ; w(st)": "7", "st := 2 ; for i = 1 to st do { st := 7 ; wrch('.') }": "..",
	} {
		s := mustParse(t, body(items+use)+" let t(n) = valof { wrch('0' + n) ; resultis n } let g2(a, b) = a + b let p(n) = g2")
		for _, f := range forms {
			if r, _, err := mean.Run(s, f, "", plenty); err != api.OK || r.Out != want || r.End != api.Done {
				t.Errorf("Run(%q) by %v: %s, error %d; want %q", use, f, show(r), err, want)
			}
		}
	}
}

// P5.1: steps, each node that is one and each part that is none.
func TestSteps(t *testing.T) {
	for src, want := range map[string]int{
		"let start() = 1": 1, "let start() = 'a'": 1, "let start() = \"abc\"": 1, "let start() = true": 1, "let start() = false": 1, "let start() = ?": 1, "let start() = start": 1, "let start() = rdch": 1, "manifest { m = 1 + 2 } static { s = 1 + 2 } global { g : 10 + 10 } let start() = m": 1,
		"let start() = slct(1, 1 + 1, 0)": 1, "let start() = table(1, 2 + 3)": 1, "let start() = 1 + 2": 3, "let start() = 1 + 2 * 3": 5, "let start() = - (~ 1)": 3, "let start() = 1 -> 2, 3 + 4": 3, "let start() = 0 -> 2, 3 + 4": 5, "let start() = rdch()": 2, "let start() = muldiv(1, 2, 3)": 5,
		"static { s = 1 } let start() = s": 1, "static { s = 1 } let start() = @ s": 1, "static { s = 1 } let start() = ! @ s": 2, "let start() = table(1, 2) ! 1": 3, "let start() = ! table(1, 2)": 2, "let start() = @ (table(1, 2) ! 1)": 3, "let start() = @ (! table(1, 2))": 2, "let start() = \"abc\" % 1": 3,
		"let start() = slct(1, 1, 0) of table(1)": 2, "manifest { m = 1 } let start() = m of table(1)": 2, "let start() = valof { }": 3, "let start() = valof { resultis 1 }": 4, "let start() = valof { { resultis 1 } ; { } }": 5, "let start() = f(1) + f(2) let f(x) = x": 9,
		"let start() be { }": 2, "let start() be": 1, "let start() be { ; }": 3, "let start() be { { } ; { } }": 5, "let start() be rdch()": 3, "let start() be return": 1, "let start() be f() let f() be { return ; }": 5,
		"static { s = 1 } let start() be s := 2": 2, "static { s = 1 } let start() be s, s := 2, 3 + 4": 5, "let start() be table(1, 2) ! 1 := 2": 4, "let start() be ! table(1, 2) := 2": 3, "let start() be \"abc\" % 1 := 2": 4, "let start() be slct(1, 1, 0) of table(1) := 2": 3,
		"let start() be { let a = 1 }": 3, "let start() be { let a, b = 1, 2 }": 4, "let start() be { let v = vec 3 + 4 }": 2, "let start() be { let a = 1 ; a := a }": 5,
		"let start() be if 1 do": 3, "let start() be if 0 do": 2, "let start() be unless 1 do": 2, "let start() be unless 0 do": 3, "let start() be test 1 then { } else": 4, "let start() be test 0 then { } else": 3,
		"let start() be while 0 do": 2, "let start() be until 1 do": 2, "let start() be while 1 do break": 3, "let start() be break repeat": 2, "let start() be { } repeatwhile 0": 4, "let start() be { } repeatuntil 1": 4, "let start() be loop repeatwhile 0": 3, "static { s = 1 } let start() be while s do s := 0": 5, "static { s = 1 } let start() be s := s - 1 repeatuntil s < - 2": 1 + 4*4 + 4*4,
		"let start() be for i = 1 to 3 do": 3 + 3, "let start() be for i = 1 to 0 do": 3, "let start() be for i = 1 to 5 by 1 + 1 do": 3 + 3, "let start() be for i = 1 to 3 do { }": 3 + 6, "let start() be for i = 1 to 3 do loop": 3 + 3, "let start() be for i = 1 to 3 do break": 3 + 1,
		"let start() be switchon 1 into { }": 2, "let start() be switchon 1 into { case 2 : ; case 3 : }": 2, "let start() be switchon 1 into { case 0 + 1 : }": 5, "let start() be switchon 1 into { ; case 1 : ; }": 6, "let start() be switchon 1 into { default : }": 5, "let start() be switchon 1 into { case 1 : endcase ; }": 5, "let start() be switchon 2 into { l : case 1 : case 2 : default : }": 6,
		"let start() be { goto l ; ; l : }": 4, "let start() be { l : }": 3, "let start() be { l : m : { } }": 5, "let start() be { goto m ; l : m : { } }": 5, "static { s = 2 } let start() be { l : s := s - 1 ; if s do goto l }": 1 + 2*(5+2) + 1,
	} {
		wantSteps(t, src, want)
	}
	s := mustParse(t, "let start() be { wrch(65) ; finish }")
	if r, _, err := mean.Run(s, forms[0], "", 6); err != api.OK || r != (api.Result{Out: "A", End: api.Stopped, Steps: 6}) {
		t.Errorf("%s, error %d", show(r), err)
	}
	s = mustParse(t, "let start() be { wrch(65) ; wrch(1 / 0) }")
	for fuel, want := range map[int]api.Result{
		0: {End: api.Fuel}, 4: {End: api.Fuel, Steps: 4}, 5: {Out: "A", End: api.Fuel, Steps: 5}, 9: {Out: "A", End: api.Fuel, Steps: 9},
		10: {Out: "A", End: api.Fault, Why: api.ErrZero, Steps: 10}, api.MaxSteps: {Out: "A", End: api.Fault, Why: api.ErrZero, Steps: 10},
	} {
		if r, _, err := mean.Run(s, forms[0], "", fuel); err != api.OK || r != want {
			t.Errorf("with fuel %d: %s, error %d; want %s", fuel, show(r), err, show(want))
		}
	}
}

// P5.1: loops.
func TestLoops(t *testing.T) {
	wantOut(t,
		"let i = 0 ; while i < 3 do { i := i + 1 ; w(i) }", "123", "let i = 3 ; until i = 0 do { w(i) ; i := i - 1 }", "321", "while false do wrch('x') ; until true do wrch('x')", "",
		"let i = 0 ; { i := i + 1 ; w(i) ; if i = 3 do break } repeat", "123", "let i = 5 ; { i := i + 1 ; w(i) } repeatwhile i < 3", "6", "let i = 0 ; { i := i + 1 ; w(i) } repeatuntil i = 3", "123",
		"let i = 0 ; while i < 6 do { i := i + 1 ; if i rem 2 do loop ; w(i) }", "246", "let i = 0 ; { i := i + 1 ; if i = 2 do loop ; w(i) } repeatuntil i >= 4", "134", "let i = 0 ; { i := i + 1 ; if i = 4 do loop ; w(i) } repeatwhile i < 4", "123",
		"let i = 0 ; { i := i + 1 ; if i = 2 do loop ; if i = 4 do break ; w(i) } repeat", "13", "for i = 1 to 5 do { if i = 2 do loop ; if i = 4 do break ; w(i) }", "13",
		"for i = 1 to 3 do for k = i to 3 do { if k = 2 do loop ; w(k) ; if i = 1 do break }", "133", "let i = 0 ; i := i + 1 repeatuntil i = 4 repeatuntil i > 2 ; w(i)", "4",
		"for i = 1 to 3 do w(i)", "123", "for i = 3 to 1 do w(i)", "", "for i = 3 to 1 by - 1 do w(i)", "321", "for i = 1 to 3 by - 1 do w(i)", "", "for i = 1 to 8 by 3 do w(i)", "147", "for i = 8 to 1 by - 3 do w(i)", "852", "for i = 2 to 2 do w(i) ; for i = 2 to 2 by - 1 do w(i)", "22",
		"for i = 1 to 9 do { w(i) ; i := i + 2 }", "147", "for i = 1 to 3 do { let p = @ i ; ! p := ! p + 1 ; w(i) }", "24", "let i = 7 ; for i = i to i + 1 do w(i) ; w(i)", "787", "for i = 1 to 2 do { let i = 5 ; w(i) }", "55",
		"for i = 1 to 2 do { let x = i ; x := x + 1 ; w(x) }", "23", "while true do switchon 1 into { case 1 : break } ; w(1)", "1", "let i = 0 ; while i < 2 do { i := i + 1 ; switchon 1 into { case 1 : loop } ; w(9) } ; w(i)", "2", "switchon 1 into { case 1 : while true do endcase ; w(9) } ; w(1)", "1",
		"let s = 0 ; for i = 1 to 10 do s := s + valof { for k = 1 to 9 do if k * k > i do resultis k } ; w(s)", "29",
	)
	wantWild(t, "for i = 1 to 2 do { (@ i) ! 0 := ? ; wrch('.') }", "for i = ? to valof { wrch('.') ; resultis 1 } do", "for i = w to valof { wrch('.') ; resultis 1 } do", "wrch('.') ; for i = 1 to w do", "let x = ? ; for i = @ x to valof { wrch('.') ; resultis @ x } do break", "for i = 1 to 2 do { i := @ i ; wrch('.') }")
}

// P5.1: a CFor by words that are too short for its numbers.
func TestCountingByWords(t *testing.T) {
	short, long := forms[:2], forms[2:]
	done := func(out string) api.Result { return api.Result{Out: out} }
	wantRun(t, body("for i = 32766 to 32767 do { if i < 0 do { wrch('-') ; w(i + 32767) ; break } ; w(i) }"), "", done("3276632767--1"), short...)
	wantRun(t, body("for i = 32766 to 32767 do { if i < 0 do { wrch('-') ; w(i + 32767) ; break } ; w(i) }"), "", done("3276632767"), long...)
	// Its sign tells the way, and what is added is a word: 65535 is -1.
	wantRun(t, body("for i = 3 to 5 by 65535 do { w(i) ; if i = 1 do break }"), "", done("321"), short...)
	wantRun(t, body("for i = 3 to 5 by 65535 do { w(i) ; if i = 1 do break }"), "", done("3"), long...)
	wantRun(t, body("for i = 3 to 1 by - 65535 do { w(i) ; if i = 5 do break }"), "", done("345"), short...)
	wantRun(t, body("let n = 0 ; for i = 3 to 5 by 65536 do { n := n + 1 ; if n = 4 do break } ; w(n)"), "", done("4"), short...)
	wantRun(t, body("for i = 65536 to 1 do w(i)"), "", done("01"), short...)
	wantRun(t, body("for i = 65536 to 1 do w(i)"), "", done(""), long...)
}

// P5.1: switches.
func TestSwitches(t *testing.T) {
	const cases = "case 2 : wrch('b') ; case 3 : { wrch('c') ; endcase } ; case - 1 : case 7 : wrch('m') ; endcase ; "
	for i, want := range map[string]string{"1": "", "2": "bc", "3": "c", "- 1": "m", "7": "m", "0": "", "1 + 1": "bc"} {
		wantOut(t, "switchon "+i+" into { "+cases+"} ; wrch('.')", want+".", "switchon "+i+" into { wrch('x') ; "+cases+" } ; wrch('.')", want+".")
		if want == "" {
			want = "dbc"
		}
		wantOut(t, "switchon "+i+" into { default : wrch('d') ; "+cases+"}", want)
	}
	wantOut(t,
		"switchon 5 into { case 4 : wrch('a') ; default : wrch('d') ; case 3 : wrch('c') }", "dc", "switchon 3 into { default : wrch('d') ; case 3 : wrch('c') }", "c",
		"switchon 1 into { case 1 : switchon 2 into { case 1 : wrch('x') ; case 2 : wrch('y') ; endcase } ; wrch('z') }", "yz", "w(valof { switchon 1 into { case 1 : resultis 4 } })", "4",
		"switchon 1 into { let x = 5 ; case 1 : x := 6 ; w(x) }", "6", "for i = 1 to 2 do switchon i into { let x = 5 ; case 1 : x := 6 ; case 2 : ; let y = 1 ; x := x ; w(y) }", "11",
		"switchon 1 into { wrch('x') ; l : case 1 : wrch('y') ; n : }", "y", "let i = 0 ; switchon 1 into { l : wrch('l') ; i := i + 1 ; case 1 : wrch('y') ; if i < 2 do goto l }", "ylyly",
	)
	wantWild(t, "wrch('.') ; switchon 1 into { let x = 5 ; case 1 : w(x) }", "wrch('.') ; switchon 1 into { let v = vec 5 ; case 1 : v ! 0 := 1 }", "for i = 1 to 2 do switchon i into { let x = 5 ; case 1 : x := 6 ; endcase ; case 2 : wrch('.') ; w(x) }")
	// The first one that is equal as a word.
	wantRun(t, body("switchon 1 into { case 65537 : wrch('a') ; case 1 : wrch('b') }"), "", api.Result{Out: "ab"}, forms[:2]...)
	wantRun(t, body("switchon 1 into { case 65537 : wrch('a') ; case 1 : wrch('b') }"), "", api.Result{Out: "b"}, forms[2:]...)
	wantRun(t, body("switchon 65537 into { default : wrch('d') ; case 1 : wrch('b') ; case 65537 : wrch('a') }"), "", api.Result{Out: "ba"}, forms[:2]...)
	wantRun(t, body("switchon 65537 into { default : wrch('d') ; case 1 : wrch('b') ; case 65537 : wrch('a') }"), "", api.Result{Out: "a"}, forms[2:]...)
}

// P5.1: jumps, and what they do with locals.
func TestJumps(t *testing.T) {
	wantOut(t,
		"let i = 0 ; l : i := i + 1 ; w(i) ; if i < 3 do goto l", "123", "goto l ; wrch('x') ; l : wrch('y')", "y", "goto m ; l : wrch('l') ; goto n ; m : wrch('m') ; goto l ; n : wrch('n')", "mln",
		"l : m : wrch('x')", "x", "for i = 1 to 9 do { for k = 1 to 9 do if k = 3 do goto l ; wrch('x') ; l : w(i) ; if i = 2 do goto m } ; m :", "12", "let i = 0 ; l : i := i + 1 ; { { if i < 3 do goto l } ; w(i) }", "3",
		"{ goto l ; l : wrch('a') } ; l : wrch('b')", "ab", "goto l ; { l : wrch('a') } ; l : wrch('b')", "b", "w(valof { let i = 0 ; l : i := i + 1 ; if i < 5 do goto l ; resultis i })", "5", "let n = 0 ; { let i = 0 ; l : i := i + 1 ; if i < 2 do goto l ; n := n + 1 ; w(i) } repeatuntil n = 2", "22",
		// Declared before, and run: they keep what they have.
		"let i = 0 ; let x, y = 7, 8 ; l : w(x) ; x := x + 1 ; i := i + 1 ; if i < 3 do goto l ; w(y)", "7898", "let i, v = 0, ? ; let u = vec 2 ; u ! 1 := 5 ; l : w(u ! 1) ; u ! 1 := 6 ; i := i + 1 ; if i < 2 do goto l", "56", "let i, p = 0, ? ; let x = 1 ; p := @ x ; l : ! p := ! p + 1 ; i := i + 1 ; if i < 3 do goto l ; w(x)", "4",
		// Declared before, and not run: they are there.
		"goto l ; let x = 7 ; l : x := 5 ; w(x)", "5", "goto l ; let x, y = 7, 8 ; l : y := 5 ; w(y) ; x := y", "5", "goto l ; let x = 7 ; l : ; let y = x ; let p = @ x ; ! p := 6 ; w(x)", "6", "goto l ; let v = vec 3 ; l : v := 5 ; w(v)", "5", "let i = 0 ; goto l ; let x = 7 ; l : i := i + 1 ; x := i ; w(x) ; if i < 3 do goto l", "123",
		"goto m ; let x = 7 ; l : w(x) ; goto n ; m : x := 3 ; goto l ; n :", "3",
		// Declared behind: they are made anew.
		"let i, p = 0, ? ; l : ; let x = i ; i := i + 1 ; w(x) ; x := 9 ; if i < 3 do goto l", "012",
	)
	wantWild(t,
		"goto l ; let x = 7 ; l : wrch('.') ; w(x)", "goto l ; let x, y = 7, 8 ; l : wrch('.') ; y := 1 ; w(x)", "goto l ; let v = vec 3 ; l : wrch('.') ; v ! 0 := 1", "goto l ; let v = vec 3 ; l : wrch('.') ; if v do",
		// In each beginning of the block anew.
		"for i = 1 to 2 do { if i = 2 do goto l ; let x = 7 ; l : wrch(x + '.' - 7) }",
		// Those declared behind have ended.
		"let p, i = 0, 0 ; l : if i do { wrch('.') ; w(! p) } ; let x = 5 ; p, i := @ x, 1 ; goto l", "let p = 0 ; l : if p ~= 0 do w(1) ; let v = vec 5 ; p := v ; wrch('.') ; goto l", "let p = 0 ; l : if p ~= 0 do w(1) ; { let x = 5 ; p := @ x ; wrch('.') ; goto l }",
		"let p = 0 ; m : goto l ; let x = 5 ; l : if p do w(1) ; x := 1 ; p := @ x ; wrch('.') ; goto m", "let i = 0 ; l : i := i + 1 ; if i = 2 do goto m ; let x = '.' ; wrch(x) ; goto l ; m : wrch(x)",
		"let p = 0 ; for i = 1 to 2 do { p := @ i ; wrch('.') ; goto l } ; l : w(! p)",
	)
}

// P5.1: valofs, results and returns.
func TestResults(t *testing.T) {
	wantOut(t,
		"w(valof { })", "0", "w(valof { resultis 5 ; wrch('x') })", "5", "w(valof { while true do { for i = 1 to 9 do if i = 4 do resultis i } })", "4", "w(1 + valof { let x = valof { resultis 3 } ; resultis x + 1 })", "5", "w(valof { resultis valof { resultis 7 } })", "7", "w(valof { let x = valof { resultis 3 } })", "0",
		"w(f(1)) ; w(q()) ; w(g(4)) ; w(wrch('x') + 2)", "014x2", "let x = valof { resultis ? } ; let y = g(?)", "", "let x = 5 ; w(valof { let x = 6 ; resultis x }) ; w(x)", "65", "w(valof { switchon 1 into { case 1 : resultis 8 } })", "8",
	)
	r := " let r(n) be { while true do { if n = 1 do return ; wrch('a') ; { if n = 2 do return } ; switchon n into { case 3 : return } ; break } ; wrch('b') ; for i = 1 to 9 do { wrch('c') ; return } } "
	wantRun(t, "let start() be { r(1) ; wrch('.') ; r(2) ; wrch('.') ; r(3) ; wrch('.') ; r(4) ; w(r(1)) ; return ; wrch('x') }"+r+helpers, "", api.Result{Out: ".a.a.abc0"}, forms...)
}

// P5.1: numbers are words.
func TestWordsOfForms(t *testing.T) {
	for i, x := range []struct{ bits, out string }{{"16", "-32768 -25536 -1 -25536 0 4095 -1"}, {"24", "32768 40000 65535 40000 65536 1048575 8388607"}, {"32", "32768 40000 65535 40000 65536 268435455 8388607"}} {
		src := "manifest { m = 40000 } static { s = 65535 } let start() be { w(32767 + 1) ; b() ; w(m) ; b() ; w(s) ; b() ; w(table(40000) ! 0) ; b() ; w(256 * 256) ; b() ; w(- 1 >> 4) ; b() ; w(#7fffff) } let b() be wrch(' ') let w(n) be { if n < 0 do { wrch('-') ; test n = #8000 then { w(3276) ; n := 8 } else n := - n } ; if n > 9 do w(n / 10) ; wrch('0' + n rem 10) }"
		wantRun(t, src, "", api.Result{Out: x.out}, forms[2*i:2*i+2]...)
	}
}
