package mean_test

import (
	"strings"
	"testing"

	"bluebell/api"
	"bluebell/mean"
)

// operands are expressions of values of all kinds; operandItems declare what they name.
var operands = map[string]string{
	"number": "7", "zero": "0", "address": "v", "behind": "(v + 3)", "beyond": "(v + 4)", "before": "(v - 1)", "other": "u",
	"dead": "d", "text": "\"abc\"", "procedure": "w", "given": "rdch", "nothing": "?",
}

const operandItems = "let v = vec 2 ; let u = vec 2 ; let d = getvec(1) ; freevec(d) ; wrch('.') ; "

// between is an operator between two kinds of operands.
type between struct{ a, op, b string }

// results tells what operators give that are not wild; those of two numbers are left out.
func results() map[between]string {
	want := map[between]string{}
	for _, a := range []string{"address", "other", "text", "behind", "beyond", "before", "dead"} {
		for _, n := range []string{"number", "zero"} {
			want[between{a, "+", n}] = "address"
			want[between{n, "+", a}] = "address"
			want[between{a, "-", n}] = "address"
		}
	}
	for _, a := range []string{"address", "other", "behind", "dead"} { // of one object, and from its beginning to one behind
		for op, result := range map[string]string{"-": "0", "=": "-1", "~=": "0", "<": "0", "<=": "-1", ">": "0", ">=": "-1"} {
			want[between{a, op, a}] = result
		}
	}
	for op, pair := range map[string][2]string{"-": {"-3", "3"}, "=": {"0", "0"}, "~=": {"-1", "-1"}, "<": {"-1", "0"}, "<=": {"-1", "0"}, ">": {"0", "-1"}, ">=": {"0", "-1"}} {
		want[between{"address", op, "behind"}] = pair[0]
		want[between{"behind", op, "address"}] = pair[1]
	}
	kinds := []string{"address", "other", "text", "procedure", "given", "zero"}
	for _, a := range kinds {
		for _, b := range kinds {
			same := "0"
			if a == b && a != "text" { // each of the two texts is an object of its own
				same = "-1"
			}
			want[between{a, "=", b}] = same
			want[between{a, "~=", b}] = map[string]string{"0": "-1", "-1": "0"}[same]
		}
	}
	return want
}

// P5.1: operators between all kinds of values.
func TestOperatorsOfKinds(t *testing.T) {
	t.Parallel()
	want := results()
	for a, x := range operands {
		for b, y := range operands {
			for _, op := range strings.Fields("* / rem + - << >> & | xor eqv = ~= < <= > >=") {
				if strings.Contains("number zero", a) && strings.Contains("number zero", b) {
					continue
				}
				use := operandItems + "let r = " + x + " " + op + " " + y
				switch result := want[between{a, op, b}]; result {
				case "":
					wantWild(t, use)
				case "address":
					wantOut(t, use+" ; f(r)", ".")
				default:
					wantOut(t, use+" ; w(r)", "."+result)
				}
			}
		}
	}
}

// P5.1: which addresses are there, and which are beside an object, told by what may be done with them.
func TestPlaces(t *testing.T) {
	t.Parallel()
	const items = "let v = vec 3 ; let x = 1 ; let s = \"abcdef\" ; let t = table(1, 2) ; let g = getvec(2) ; wrch('.') ; "
	for object, cells := range map[string]int{"v": 4, "@ x": 1, "t": 2, "g": 3, "@ s": 1, "@ h": 1, "@ st": 1} {
		for at := -3; at < 8; at++ {
			p := "(" + object + " + (" + number(at) + "))"
			for use, most := range map[string]int{"! " + p + " := 5 ; w(! " + p + ")": cells - 1, "w(5 & (" + p + " -> 5, 5))": cells - 1, "w(5 & (" + p + " ~= 0))": cells - 1, "w(5 & (" + p + " ~= w))": cells - 1, "w(5 & (w ~= " + p + "))": cells - 1, "w(5 & (v + 1 ~= " + p + "))": cells - 1, "w(" + p + " - " + object + " - (" + number(at) + ") + 5)": cells, "w(5 & (" + object + " <= " + p + "))": cells, "w(5 & (" + p + " = " + p + "))": cells} {
				if object == "v" && strings.Contains(use, "v + 1") {
					continue
				}
				if at >= 0 && at <= most {
					wantOut(t, items+use, ".5")
				} else {
					wantWild(t, items+use)
				}
			}
		}
	}
}

func number(n int) string {
	if n < 0 {
		return "- " + number(-n)
	}
	return string(rune('0' + n))
}

// P5.1: each use of a value, with the kinds that it takes: n a number, 0 the number 0, a an address of words, b one of bytes, h what getvec gave, with nothing in it, p a procedure without parameters, ? nothing.
func TestUses(t *testing.T) {
	const items = "let x = 1 ; let a = vec 1 ; let h, b = getvec(1), getvec(1) ; let n = 1 ; a ! 0, a ! 1 := 1, 1 ; b % 0, b % 1 := 1, 1 ; "
	for use, kinds := range map[string]string{
		"wrch(X)": "n0", "stop(X)": "n0", "getvec(X)": "n0", "freevec(X)": "0bh", "muldiv(X, 1, 1)": "n0", "muldiv(1, X, 1)": "n0", "muldiv(1, 1, X)": "n0",
		"X()": "p", "- X": "n0", "~ X": "n0", "! X": "ah", "X ! 0": "ah", "0 ! X": "ah", "a ! X": "n0", "X ! a": "n0", "X % 0": "b", "b % X": "n0", "slct(1, 1, 0) of X": "a",
		"@ (X ! 0)": "abh", "@ (0 ! X)": "abh", "@ (a ! X)": "n0", "@ (! X)": "abh", "! X := 1": "ah", "X ! 0 := 1": "ah", "a ! X := 1": "n0", "X % 0 := 1": "bh", "b % X := 1": "n0", "b % 0 := X": "n0", "h % 0 := X": "n0",
		"slct(1, 1, 0) of X := 1": "a", "slct(1, 1, 0) of a := X": "n0", "slct(0, 1, 0) of a := X": "n0",
		"if X do": "n0abhp", "unless X do": "n0abhp", "test X then else": "n0abhp", "while X do break": "n0abhp", "until X do break": "n0abhp", "X -> 1, 2": "n0abhp",
		"{ if x = 2 do break ; x := 2 } repeatwhile X": "n0abhp", "{ if x = 2 do break ; x := 2 } repeatuntil X": "n0abhp",
		"switchon X into { }": "n0", "switchon X into { default : }": "n0", "for i = X to 1 do break": "n0", "for i = 1 to X do break": "n0", "for i = 1 to 2 do { if x = 2 do break ; x := 2 ; i := X }": "n0",
		"for i = 1 to 2 do { if x = 2 do break ; x := 2 ; ! (@ i) := X }": "n0",
		"X": "n0abhp?", "x := X ; a ! 0 := X ; st := X ; h := X": "n0abhp?", "let y, z = X, X": "n0abhp?", "f(X)": "n0abhp?", "x := valof { resultis X }": "n0abhp?", "x := g(X)": "n0abhp?", "x := true -> X, 1": "n0abhp?",
	} {
		for kind, x := range map[string]string{"n": "n", "0": "0", "a": "a", "b": "b", "h": "h", "p": "q", "?": "?"} {
			command := strings.ReplaceAll(use, "X", x)
			if !strings.Contains(use, ":=") && !strings.Contains(" if unless test while until switchon for let f( {", strings.Fields(use)[0]) {
				command = "x := " + command
			}
			wantWildness(t, items+command, !strings.Contains(kinds, kind))
		}
	}
}

// wantWildness looks by all forms whether commands of start are wild.
func wantWildness(t *testing.T, commands string, want bool) {
	t.Helper()
	s := mustParse(t, body(commands))
	for _, f := range forms {
		r, _, err := mean.Run(s, f, "", plenty)
		if err != api.OK || (r.End == api.Wild) != want || r.End == api.Fuel {
			t.Errorf("Run(%q) by %v: %s, error %d; want wild: %t", commands, f, show(r), err, want)
		}
	}
}

// P5.1: calls.
func TestWildCalls(t *testing.T) {
	wantOut(t, "f(1) ; w(q()) ; let p = w ; p(3) ; (q() -> w, f)(4) ; w(f(1))", "1340")
	wantWild(t,
		"wrch('.') ; f()", "wrch('.') ; f(1, 2)", "wrch('.') ; q(1)", "wrch('.') ; rdch(1)", "wrch('.') ; wrch()", "wrch('.') ; wrch(1, 2)", "wrch('.') ; stop()", "wrch('.') ; stop(1, 2)",
		"wrch('.') ; getvec()", "wrch('.') ; getvec(1, 2)", "wrch('.') ; freevec()", "wrch('.') ; freevec(0, 0)", "wrch('.') ; muldiv(1, 2)", "wrch('.') ; muldiv(1, 2, 3, 4)", "wrch('.') ; start(1)",
		"wrch('.') ; createco(f, 10)", "wrch('.') ; callco(0, 1)", "wrch('.') ; cowait(1)", "wrch('.') ; deleteco(0)", "wrch('.') ; createco()",
		"wrch('.') ; h(1)", "let x = 5 ; wrch('.') ; x(1)",
	)
	wantWild(t, // behind the arguments, and the procedure behind them
		"f(wrch('.'), 1)", "?(wrch('.'))", "(1 + 0 * wrch('.'))()", "wrch(?, wrch('.'))", "let x = ? ; x(valof { x := f ; wrch('.') }, 1)",
	)
	wantOut(t, "let x = ? ; x(valof { x := w ; wrch('.') ; resultis 5 })", ".5")
	wantWildness(t, "let c, d = createco, callco ; if c = d do finish", false) // as a value it is a procedure
	// A call of a given procedure looks at its values from the left; a division by 0 comes behind them.
	wantWild(t, "wrch('.') ; muldiv(1, ?, 0)", "wrch('.') ; muldiv(?, 1 - 1, 0)")
}

// P5.1: freevec.
func TestFreevec(t *testing.T) {
	wantOut(t, "freevec(0) ; w(freevec(0)) ; let v = getvec(0) ; w(freevec(v)) ; let u = getvec(3) ; freevec(u + 1 - 1)", "00")
	wantWild(t,
		"let v = getvec(2) ; wrch('.') ; freevec(v + 1)", "let v = getvec(2) ; wrch('.') ; freevec(v - 1)", "let v = getvec(2) ; wrch('.') ; freevec(v) ; freevec(v)", "let v = getvec(2) ; wrch('.') ; freevec(v) ; v ! 0 := 1",
		"let v = vec 2 ; wrch('.') ; freevec(v)", "let x = 1 ; wrch('.') ; freevec(@ x)", "wrch('.') ; freevec(\"a\")", "wrch('.') ; freevec(table(1))", "wrch('.') ; freevec(@ st)", "wrch('.') ; freevec(1)", "wrch('.') ; freevec(w)", "wrch('.') ; freevec(?)",
		"let v = getvec(2) ; wrch('.') ; freevec(v) ; if v do", "let v, u = getvec(2), getvec(2) ; wrch('.') ; freevec(v) ; if v = u do", "let v = getvec(2) ; wrch('.') ; freevec(v) ; if 0 ~= v do",
	)
	wantOut(t, "let v = getvec(2) ; freevec(v) ; w(v + 1 - v) ; w(v = v)", "1-1")
}

// P5.1: objects end with their blocks, loops and calls; others go on.
func TestEndOfObjects(t *testing.T) {
	const items = "let p, q, n = ?, ?, 0 ; "
	for _, use := range []string{"! p", "p ! 0", "(p -> 1, 2)", "p = 0", "p ~= q", "p ~= w", "p % 0"} {
		wantWild(t,
			items+"{ let x = 5 ; p := @ x ; ! p := 6 ; wrch('.') } ; q := "+use,
			items+"{ let v = vec 5 ; p := v ; p ! 0 := 6 ; wrch('.') } ; q := "+use,
			items+"for i = 1 to 2 do { p := @ i ; wrch('.') ; break } ; q := "+use,
			items+"p := local(5) ; wrch('.') ; q := "+use,
			items+"p := vector() ; wrch('.') ; q := "+use,
			items+"p := valof { let x = 1 ; resultis @ x } ; wrch('.') ; q := "+use,
			items+"{ let x = n ; test n = 0 then p := @ x else { wrch('.') ; q := "+use+" } ; n := n + 1 } repeat",
			items+"{ let x = n ; test n = 0 then p := @ x else { wrch('.') ; q := "+use+" } ; n := n + 1 ; loop } repeat",
			items+"while true do { let x = 1 ; p := @ x ; break } ; wrch('.') ; q := "+use,
			items+"switchon 1 into { let x = 1 ; case 1 : p := @ x ; endcase } ; wrch('.') ; q := "+use,
			items+"{ let x = 1 ; p := @ x ; goto m } ; m : wrch('.') ; q := "+use,
		)
	}
	wantOut(t,
		"let p, s = ?, ? ; { s := \"abc\" ; p := table(7, 8) } ; w(p ! 1) ; w(s % 0)", "83",
		"let p = ? ; { p := getvec(1) ; p ! 0 := 4 } ; w(p ! 0)", "4",
		"let n = 0 ; { let t = table(5) ; w(! t) ; ! t := ! t + 1 ; n := n + 1 } repeatwhile n < 3", "567",
		"let n = 0 ; { let t = \"A\" ; wrch(t % 1) ; t % 1 := t % 1 + 1 ; n := n + 1 } repeatwhile n < 3", "ABC",
		"w(up()) ; w(up()) ; w(up())", "234",
		"let p = 0 ; for i = 1 to 3 do { if i = 1 do p := @ i ; w(! p) }", "123",
		"let x = 1 ; let p = @ x ; { let x = 2 ; w(! p) } ; w(! p)", "11",
		"let p = @ h ; ! p := 3 ; w(h) ; p := @ st ; w(! p) ; st := 6 ; w(! p) ; ! p := 7 ; w(st)", "3567",
		"w(\"a\" = \"a\") ; w(table(1) = table(1))", "00",
	)
}
