package scope_test

import (
	"strings"
	"testing"

	"bluebell/api"
)

// P4.1, rule 2: names that mean nothing, wherever there are expressions.
func TestNamesOfNothing(t *testing.T) {
	for _, c := range []string{
		"^x := 1", "f(^x)", "^x()", "f ! ^x := 1", "s := ^x", "s := 1 + 2 * ^x", "s := - ^x", "s := \"a\" % ^x", "! ^x := 1", "s := @ ^x", "s := 3 of ^x", "s := ^x of f", "^x of f := 1", "s := true -> 1, ^x", "s := table(1, ^x)", "s := slct(1, 1, 1 + ^x)",
		"if ^x do { }", "unless ^x do { }", "test ^x then { } else { }", "while ^x do { }", "until ^x do { }", "{ } repeatwhile ^x", "{ } repeatuntil ^x", "for i = ^x to 1 do { }", "for i = 1 to ^x do { }", "for i = 1 to 2 by ^x do { }", "switchon ^x into { }", "switchon 1 into { case ^x : }",
		"{ let a, b = 1, ^x }", "{ let v = vec ^x }", "{ let v = vec 1 + ^x }", "s := valof { resultis ^x }", "{ l : ^x() }", "switchon 1 into { default : ^x() }", "^x() repeat",
		"for x = ^x to 2 do { }", "for x = 1 to ^x do x()", "{ for x = 1 to 2 do x() ; f(^x) }", "{ let a = ^x ; let x = 1 }", "{ let x, b = 1, ^x }", "{ let x = ^x }", "{ let x = vec ^x }", "{ { let x = 1 } ; ^x() }", "{ f(valof { let x = 1 ; resultis x }) ; ^x() }", "{ ^x() ; let x = vec 1 }", "{ l : f(^l) }",
	} {
		wantFault(t, api.ErrNone, "static { s = 1 } let f(q) be "+c)
	}
	wantFault(t, api.ErrNone, "let f() = ^x", "let f() = ^a let g(a) = a", "let g(a) = a let f() = ^a", "manifest { m = true -> 1, f(^x) } let f() = 1", "static { s = false -> ^x, 1 }")
}

// P4.1, rule 2: names that mean something where they stand.
func TestNamesOfSomething(t *testing.T) {
	wantPass(t, "let f() = m + s + g + h() + h static { s = 1 } global { g : 20 } let h() = 1 manifest { m = 1 }", "let f(a) = a", "let f() be for i = 1 to 2 do f(i)", "let f() be { let a, b = 1, 2 ; let c = a + b ; let v = vec 3 ; f(c, v) }")
	wantPass(t, "let f(x) be { let x = x ; let x = vec 1 ; { let x = x ; for x = x to x do x() } ; x() }", "let f() be { let a = 1 ; l : { if a do f(valof { resultis a }) } }")
	wantPass(t, "let f() = start", "let f() be start(rdch, wrch, stop, getvec, freevec, muldiv, createco, callco) let g() = cowait(deleteco)")
	wantPass(t, "manifest { m = true -> 1, n ; n = 2 }", "manifest { m = true -> 1, valof { let a = m + f ; resultis a } } let f() = 1")
}

// P4.1, rule 2: labels are looked for from the innermost block outwards, not beyond a valof or the procedure.
func TestLabels(t *testing.T) {
	wantPass(t, "let f() be { l : goto l }", "let f() be { goto l ; f() ; l : }", "let f() be { { if 1 do goto l } ; l : k : { l : goto k } }", "let f() be switchon 1 into { case 1 : goto l ; case 2 : default : l : goto l }", "let f() be { while 1 do { for i = 1 to 2 do goto l } ; { l : } ; l : f() }")
	wantPass(t, "let f() = valof { l : goto l }", "let f(l) be { l : l() ; { let l = 1 ; goto l } }", "let f() be { l : f(valof { l : goto l }) }", "manifest { m = 1 -> 2, valof { l : goto l } }")
	wantFault(t, api.ErrNone, "let f() be ^goto l", "let f(l) be ^goto l", "let f() be ^goto f", "let f() be { { l : } ; ^goto l }", "let f() be { if 1 do { l : } ; ^goto l }", "let f() be { l : f(valof { ^goto l }) }", "let f() be { f(valof { l : }) ; ^goto l }", "let f() be { l : } let g() be ^goto l", "let f() be ^goto g let g() be { l : }")
	wantFault(t, api.ErrNone, "let f() be { ^goto l ; if 1 do l : }", "let f() be { switchon 1 into { case 1 : l : } ; ^goto l }", "let f() be { switchon 1 into { case 1 : { l : } ; default : ^goto l } }", "let f() = valof { f(valof { l : resultis 1 }) ; ^goto l }")
}

// aroundKinds has a name of each kind; what is behind it is in the innermost block.
const aroundKinds = "manifest { m = 1 } static { s = 1 } global { g : 20 ; p : 21 } let p() = 1 let q() = 1 let f(a) be { let b, c = 1, 2 ; let v = vec 3 ; for i = 1 to 2 do "

// P4.1, rule 3: lefts of assignments.
func TestLefts(t *testing.T) {
	for _, left := range []string{"a", "b", "v", "i", "s", "g", "a ! 1", "1 ! 2", "a % 1", "\"s\" % 1", "! a", "! 1", "! m", "3 of a", "slct(1, 2, 3) of 1", "f(1) ! 2", "m ! q"} {
		wantPass(t, aroundKinds+left+" := 1 }", aroundKinds+"a, "+left+" := 1, 2 }", aroundKinds+left+" := "+left+" }")
	}
	for _, left := range []string{"m", "p", "q", "f", "start", "rdch", "deleteco", "1", "\"s\"", "true", "false", "?", "f(x)", "a + x", "- x", "~ x", "@ x", "a -> b, x", "valof { x() }", "table(x)", "slct(1, 2, x)", "slct(99, 2, 3)"} {
		wantFault(t, api.ErrKind, aroundKinds+"^"+left+" := x }", aroundKinds+"a, ^"+left+", x := x, 2, 3 }")
	}
	wantPass(t, aroundKinds+"{ let f, m, rdch = 1, 2, 3 ; f, m, rdch := 1, 2, 3 } }", "let f(start, f) be start, f := 1, 2", "global { g : 20 } let f() be g := f")
	wantFault(t, api.ErrKind, "global { f : 20 } let f() be ^f := 1", "let g() be ^f := 1 let f() = 1 global { f : 20 }", "let start() be ^start := 1", aroundKinds+"{ let a = 1 ; ^f := 2 } }")
	wantFault(t, api.ErrNone, aroundKinds+"^x := y }", aroundKinds+"a ! ^x, 1 := 2, 3 }", aroundKinds+"a ! 1, ^x := y, z }", aroundKinds+"3 of ^x := y }")
}

// P4.1, rule 3: parts of EAddr.
func TestAddresses(t *testing.T) {
	for _, e := range []string{"a", "b", "v", "i", "s", "g", "(a ! 1)", "(1 ! 2)", "! a", "! 1"} {
		wantPass(t, aroundKinds+"f(@ "+e+") }")
	}
	for _, e := range []string{"m", "p", "q", "f", "start", "wrch", "1", "\"s\"", "true", "?", "@ x", "valof { x() }", "table(x)", "slct(99, 0, 0)"} {
		wantFault(t, api.ErrKind, aroundKinds+"f(@ ^"+e+") }")
	}
	for _, e := range []string{"f(x)", "a % x", "3 of x", "a + x", "- x", "~ x", "a -> x, y"} {
		wantFault(t, api.ErrKind, aroundKinds+"f(@ (^"+e+")) }")
	}
	wantFault(t, api.ErrNone, aroundKinds+"f(@ ^x) }", aroundKinds+"f(@ (^x ! 1)) }", aroundKinds+"f(@ ! ^x) }")
}

const (
	beforeConstant = "manifest { m = 3 } global { g : 20 } "
	behindConstant = " manifest { late = 3 } static { s = 1 }"
)

// constantPlaces are the places that ask for a constant: the one at the #.
func constantPlaces() []string {
	return []string{"let f(a) = table(#)", "let f(a) = f(table(1, #, 2))", "let f(a) = # of a", "let f(a) be # of a := 1", "let f(a) be { let v = vec # }", "let f(a) be for i = 1 to 2 by # do f(i)", "let f(a) be switchon 1 into { case 9 : a := 1 ; case # : }", "let f(a) = slct(#, 1, 1)", "let f(a) = slct(1, #, 2)", "let f(a) = 2 + slct(1, 1, #)"}
}

// P4.1, rule 4: constants that are none; what is wrong behind them is told later.
func TestConstantsThatAreNone(t *testing.T) {
	notConstant := []string{"^a", "^f", "^g", "^s", "^late", "^rdch", "^?", "^\"s\"", "^f(x)", "^valof { x() }", "(^! x)", "(^@ x)", "(^a ! x)", "(^3 % x)", "(^3 of x)", "^table(3)", "(m + ^a)", "(^a + x)", "(^a / 0)", "(- ^late)", "(^a -> x, y)", "(m -> ^a, x)", "(0 -> x, ^a)", "slct(m, ^a, x)"}
	meansNothing := []string{"^x", "(m + ^x)", "(^x / 0)", "(1 - 1 -> 1 / 0, ^x)", "(1 -> 3, ^x)", "(1 -> 3, 1 + m(^x))", "(m -> ^x, a)"}
	zero := []string{"(^m / 0)", "(1 + ^2 rem (m - 3))", "((^1 / 0) + x)", "(^1 / 0 -> x, a)"}
	for _, p := range constantPlaces() {
		before, behind, _ := strings.Cut(beforeConstant+p+behindConstant, "#")
		for want, list := range map[api.Errno][]string{api.ErrConst: notConstant, api.ErrNone: meansNothing, api.ErrZero: zero, api.ErrRange: {"^slct(17, 0, 0)", "(1 -> 3, ^slct(0, 17, 0))"}} {
			for _, e := range list {
				wantFault(t, want, before+e+behind)
			}
		}
	}
}

// P4.1, rule 4: constants, and manifests that are not known where they stand.
func TestConstants(t *testing.T) {
	for _, p := range constantPlaces() {
		for _, e := range []string{"3", "m", "(m + 1)", "(m -> 3, 1 / 0)", "(0 -> 1 / 0, m)", "(m -> 3, f(s))", "(m = 3 -> m, late)", "(~ ~ m)", "(m -> 3, valof { let m = a ; resultis m })"} {
			wantPass(t, beforeConstant+strings.Replace(p, "#", e, 1)+behindConstant)
		}
	}
	wantPass(t, "let f() = table(#80000000, #7fffffff, 0, - 5, true, false)", "let f() be switchon 1 into { case #80000000 : case 0 : case true : case 1 = 2 -> 3, 4 : }")
	wantFault(t, api.ErrConst, beforeConstant+"let f(m) = table(^m)", beforeConstant+"let f() be { let m = 1 ; { let v = vec 1 + ^m } }", beforeConstant+"let f() be for m = 1 to 2 do f(table(1, ^m))", beforeConstant+"let f() be { let m = vec 1 ; let v = vec ^m }", "let f() = table(^m) manifest { m = 1 } let g() = table(m)")
	wantPass(t, beforeConstant+"let f() be for m = m to m by m do f()", beforeConstant+"let f() be { let m = vec m }", beforeConstant+"let f() be { { let m = 1 } ; f(table(m)) }", beforeConstant+"let f() be { let m = table(m) }", "manifest { m = 1 } let f() = table(m) manifest { n = 2 } let g() = table(m, n)")
}

// P4.1, rule 4: which constants a place takes.
func TestRanges(t *testing.T) {
	for _, e := range []string{"^17", "^31", "^545", "^262144", "^#7fffffff", "^#80000000", "(^1 + 262143)", "(^slct(16, 0, 255) + 1024)", "(^16 + 32)", "(^- 1)", "(^0 - 1)", "(^true + 0)", "^true"} {
		wantFault(t, api.ErrRange, "let f(p) = "+e+" of x", "let f(p) be "+e+" of p := x")
	}
	wantPass(t, "let f(p) = 0 of p", "let f(p) = 16 of p", "let f(p) = 512 of p", "let f(p) = 261136 of p", "let f(p) = 264 of (slct(8, 8, 255) of p)", "let f(p) = slct(16, 0, 255) of p", "let f(p) = false of p")
	wantFault(t, api.ErrRange, "manifest { m = 17 } let f(p) = ^m of p", "let f() be { let v = vec ^2001 }", "let f() be { let v = vec ^- 1 }", "let f() be { let v = vec ^1000 * 1000 ; x() }", "let f() be { let v = vec ^#80000000 }")
	wantPass(t, "let f() be { let v = vec 0 ; let w = vec 2000 ; let x = vec 1 + 1 }")
	wantFault(t, api.ErrRange, "let f() be for i = 1 to 2 by ^0 do x()", "let f() be for i = f to f by ^1 - 1 do x()", "let f() be for i = 1 to 2 by ^false do x()", "let f() be for i = 1 to 2 by ^65536 * 65536 do x()")
	wantPass(t, "let f() be for i = 1 to 2 by - 1 do f()", "let f() be for i = 1 to 0 by #80000000 do f()", "let f() be for i = 0 to 0 do f()")
}

// P4.1, rule 5: CBreak and CLoop.
func TestBreaks(t *testing.T) {
	for _, l := range []string{"while 1 do #", "until 1 do #", "# repeat", "# repeatwhile 1", "# repeatuntil 1", "for i = 1 to 2 do #", "for i = 1 to 2 by 3 do #"} {
		for _, c := range []string{"break", "loop", "{ f() ; break }", "{ if 1 do { unless 2 do loop } }", "{ test 1 then f() else break }", "{ switchon 1 into { case 1 : break ; default : loop } }", "{ l : break }", "{ f() repeat ; loop }"} {
			wantPass(t, "let f() be "+strings.Replace(l, "#", c, 1), "let f() = valof { "+strings.Replace(l, "#", c, 1)+" }")
		}
		for _, c := range []string{"{ f(valof { f() ; ^break }) }", "f(valof { ^loop })", "{ let a = valof { switchon 1 into { case 1 : ^break } } }", "f(valof { resultis valof { while 1 do f() ; ^loop } })"} {
			wantFault(t, api.ErrPlace, "let f() be "+strings.Replace(l, "#", c, 1))
		}
		wantFault(t, api.ErrPlace, "let f() be { "+strings.Replace(l, "#", "f()", 1)+" ; ^break }", "let f() be { "+strings.Replace(l, "#", "f()", 1)+" ; if 1 do ^loop }", "let f() be "+strings.Replace(l, "#", "f()", 1)+" let g() be ^break")
	}
	wantFault(t, api.ErrPlace, "let f() be ^break", "let f() be ^loop", "let f() be { if 1 do { ^break } }", "let f() be switchon 1 into { case 1 : ^break }", "let f() = valof { ^break }", "manifest { m = 1 -> 2, valof { ^break } }")
	wantFault(t, api.ErrPlace, "let f() be while valof { ^break } do f()", "let f() be f() repeatwhile valof { ^loop }", "let f() be for i = valof { ^break } to 1 do f()")
	wantPass(t, "let f() be while valof { while 1 do break } do break", "manifest { m = 1 -> 2, valof { break repeat } }")
}

// P4.1, rule 5: CEndcase.
func TestEndcases(t *testing.T) {
	wantPass(t, "let f() be switchon 1 into { case 1 : endcase ; default : { f() ; endcase } }", "let f() be switchon 1 into { while 1 do endcase }", "let f() be switchon 1 into { endcase ; switchon 2 into { endcase } ; endcase }", "let f() be switchon 1 into { { } repeatwhile 1 ; { if 1 do endcase } repeat }", "let f() be switchon valof { switchon 1 into { endcase } } into { }")
	wantFault(t, api.ErrPlace, "let f() be ^endcase", "let f() be { switchon 1 into { f() } ; ^endcase }", "let f() be switchon 1 into { f(valof { ^endcase }) }", "let f() be switchon valof { ^endcase } into { }", "let f() be while 1 do ^endcase", "let f() be switchon 1 into { } let g() be ^endcase")
}

// P4.1, rule 5: CResult and CReturn.
func TestReturns(t *testing.T) {
	wantPass(t, "let f() = valof { resultis 1 }", "let f() = valof { while 1 do switchon 1 into { case 1 : { resultis valof { resultis 2 } } } }", "manifest { m = 1 -> 2, valof { resultis 3 } }", "let f() be return", "let f() be { while 1 do { if 1 do return ; f(valof { f() }) } ; return }", "let f() be finish", "let f() = valof { finish }")
	wantFault(t, api.ErrPlace, "let f() be ^resultis 1", "let f() be { f(valof { resultis 1 }) ; ^resultis x }", "let f() be while 1 do ^resultis 1", "let f() = valof { resultis 1 } let g() be ^resultis 1")
	wantFault(t, api.ErrPlace, "let f() = valof { ^return }", "let f() be { return ; f(valof { while 1 do { ^return } }) }", "let f() = valof { f(valof { f() }) ; ^return }", "manifest { m = 1 -> 2, valof { ^return } }")
}

// P4.1, rule 5: what has to be an item.
func TestItems(t *testing.T) {
	wantPass(t, "let f() be { l : }", "let f() be { l : k : m : f() }", "let f() be switchon 1 into { case 1 : case 2 : default : f() }", "let f() be switchon 1 into { l : case 1 : k : default : m : case 2 : f() }", "let f() be switchon 1 into { let a = 1 ; f() ; case 1 : ; switchon 2 into { case 1 : default : } ; default : }", "let f() = valof { l : switchon 1 into { case 1 : } }")
	for _, c := range []string{"^case 1 : f()", "^default : f()"} {
		wantFault(t, api.ErrPlace, "let f() be "+c, "let f() be { "+c+" }", "let f() be { l : "+c+" }", "let f() be switchon 1 into { { "+c+" } }", "let f() be switchon 1 into { if 1 do "+c+" }", "let f() be switchon 1 into { case 2 : while 1 do "+c+" }", "let f() be switchon 1 into { case 2 : { "+c+" } }", "let f() be switchon 1 into { f(valof { "+c+" }) }", "let f() be { switchon 1 into { } ; "+c+" }", "let f() be switchon 1 into { for i = 1 to 2 do "+c+" }", "let f() be switchon 1 into { for i = 1 to 2 do { "+c+" } }", "let f() be switchon 1 into { { "+c+" } repeat }", "let f() be switchon valof { "+c+" } into { }")
	}
	wantFault(t, api.ErrPlace, "let f() be ^l : f()", "let f() be if 1 do ^l : f()", "let f() be { while 1 do ^l : f() }", "let f() be { test 1 then f() else ^l : f() }", "let f() be switchon 1 into { case 1 : if 1 do ^l : f() }", "let f() be { k : for i = 1 to 2 do ^l : f() }", "let f() be { if 1 do ^l : x() }")
}

// P4.1, rule 6: names that are declared together.
func TestNamesTwice(t *testing.T) {
	wantFault(t, api.ErrTwice, "let f(a, ^a) = 1", "let f(a, b, c, ^b, a) be x()", "let f() be { let a, ^a = 1, 2 }", "let f() be { let a, b, ^b, a = 1, 2, 3, 4 ; x() }", "manifest { m = 1 -> 2, valof { let a, ^a = 1, 2 } }")
	wantPass(t, "let f(a) be { let a = a ; let a = a ; let b, a = a, a ; let a = vec 1 ; for a = a to a do { let a = a } }", "let f(f) = f", "let f(a) = a let g(a) = a", "let f() be { let start, m = 1, 2 }")
}

// P4.1, rule 6: labels, cases and defaults.
func TestItemsTwice(t *testing.T) {
	wantFault(t, api.ErrTwice, "let f() be { l : ; ^l : }", "let f() be { l : ^l : f() }", "let f() be { l : f() ; { l : } ; k : ; ^l : x() }", "let f() be switchon 1 into { case 1 : l : ; case 2 : ^l : }", "let f() = valof { l : ; ^l : }")
	wantPass(t, "let f() be { l : { l : { l : } } }", "let f() be { { l : } ; { l : } }", "let f() be { l : f(valof { l : }) }", "let f() be { l : } let g() be { l : }", "let f() be { l : switchon 1 into { l : } }")
	wantFault(t, api.ErrTwice, "let f() be switchon 1 into { case 1 : ; ^case 1 : }", "let f() be switchon 1 into { case 1 : case 2 : ^case 1 : x() }", "let f() be switchon 1 into { case 3 : ; case 'a' : ; ^case 97 : }", "manifest { m = 2 } let f() be switchon 1 into { case m : ; ^case 1 + 1 : }")
	wantFault(t, api.ErrTwice, "let f() be switchon 1 into { case true : ; ^case - 1 : }", "let f() be switchon 1 into { case 0 : l : default : f() ; ^case false -> x, 0 : }", "let f() be switchon 1 into { case #ffffffff : ; switchon 2 into { case 1 : } ; ^case ~ 0 : }")
	wantPass(t, "let f() be switchon 1 into { case 1 : ; case 2 : switchon 2 into { case 1 : ; case 2 : } }", "let f() be { switchon 1 into { case 1 : default : } ; switchon 1 into { case 1 : default : } }", "let f() be switchon 1 into { case 1 : f(valof { switchon 1 into { case 1 : default : } }) ; default : }")
	wantFault(t, api.ErrTwice, "let f() be switchon 1 into { default : ; ^default : }", "let f() be switchon 1 into { default : case 1 : ^default : }", "let f() be switchon 1 into { default : switchon 2 into { default : } ; ^default : x() }")
}

// P4.1: nodes from the left, each before its parts, but a CFor's command and a CLet's names behind the rest.
func TestOrderOfNodes(t *testing.T) {
	wantFault(t, api.ErrNone, "let f() be f(^x, @ 1)", "let f() be { ^x := 1 ; break }", "let f() be { let a, a = ^x, 1 }", "let f() be { let a, a = 1, valof { ^goto l ; resultis 1 } }", "let f() be switchon 1 into { case 1 : ; case 1 + ^x : }", "let f() = table(true -> 1, ^x, f)", "let f() = table(1 -> 2, ^y, x)")
	wantFault(t, api.ErrNone, "let f() be for i = 1 to ^x by 0 do y()", "let f() be ^x of y := z", "let f() be { f(^x) } repeatwhile y", "let f() be test 1 then ^x() else break", "let f() be { { let v = vec 1 -> 1, ^x } ; break }", "let f() = 1 let g() be ^x() let h(a, a) be break", "static { s = 1 -> 2, ^x } let f(a, a) = 1")
	wantFault(t, api.ErrKind, "let f() be ^f(x) := 1", "let f() be ^slct(99, 0, 0) := 1", "let f() be { f(@ ^1) ; x() }", "let f() be ^1, x := 2, y", "let f() be ^1 := x")
	wantFault(t, api.ErrConst, "let f() = table(^f(x), y)", "let f(a) be for i = 1 to 2 by ^a do x()", "let f() be switchon 1 into { case ^f : x() }", "let f() be { let v = vec ^f ; x() }", "let f() = slct(^f, x, y)", "let f(a) = ^a of x", "let f(a) = slct(17, ^a, x)")
	wantFault(t, api.ErrRange, "let f() be for i = 1 to 2 by ^1 - 1 do x()", "let f() be { let v = vec ^1 -> 2001, x }", "let f() = ^slct((1 -> 17, x), 1, 1)", "let f(p) = (^1 -> 17, x) of y")
	wantFault(t, api.ErrZero, "let f() = table(^1 / 0, x)", "let f() = slct(^1 / 0, x, 99)")
}

// P4.1: at one node, and at nodes one behind the other, rules of all numbers.
func TestOrderOfRules(t *testing.T) {
	wantFault(t, api.ErrPlace, "let f() be { ^break ; x() }", "let f() be ^case x : y()", "let f() be ^resultis x", "let f() be if 1 do ^l : goto k", "let f() be { l : if 1 do ^l : }", "let f() be { switchon 1 into { case 1 : } ; ^case 1 : }", "let f() be { l : ; k : ; ^break ; l : }", "let f() be switchon 1 into { default : if 1 do ^default : }")
	wantFault(t, api.ErrTwice, "let f(a, ^a) be break", "let f() be { let a, ^a = 1, 2 ; x() }", "let f() be switchon 1 into { case 1 : ; ^case 1 -> 1, x : y() }", "let f() be { l : ; ^l : x() }", "let f(a, ^a) = x", "let f() be { x : ^x : goto y }", "let f(a, ^a) = 1 static { s = 1 -> 2, x }")
}
