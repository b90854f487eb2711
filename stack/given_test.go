package stack_test

import (
	"strconv"
	"strings"
	"testing"

	"bluebell/api"
	"bluebell/stack"
)

// P8.1
func TestReadingAndWriting(t *testing.T) {
	wantRun(t, "let start() be { w(rdch()) ; wrch(' ') ; w(- rdch()) ; w(- rdch()) }", "\xff", done("255 11"))
	wantRun(t, "let start() be { wrch(#141) ; wrch(- 1) ; wrch(256) ; w(wrch('B')) }", "", done("A\xff\x00B0"))
	wantRun(t, "let start() be stop(40000)", "", stopped("", -25536), forms[:2]...)
	wantRun(t, "let start() be stop(40000)", "", stopped("", 40000), forms[2:]...)
}

// P8.1: the byte behind the greatest output is not written.
func TestOutputLimit(t *testing.T) {
	const src = "let start() be { for i = 1 to 20000 do for k = 1 to 10 do wrch('x') ; if rdch() = 'y' do wrch('y') }"
	for input, why := range map[string]api.Errno{"": api.OK, "n": api.OK, "y": api.ErrLimit} {
		want := done(strings.Repeat("x", api.MaxOutput))
		if why != api.OK {
			want = faulted(want.Out, why)
		}
		c := compile(t, src)
		r, err := stack.Run(c, forms[0], input, api.MaxSteps)
		if r.Steps = 0; r != want || err != api.OK {
			t.Errorf("with %q: %d bytes, end %d, error %d, error %d", input, len(r.Out), r.End, r.Why, err)
		}
	}
}

// P8.1
func TestVectors(t *testing.T) {
	wantRun(t, "let start() be { let v, u = getvec(4), getvec(0) ; w(v - 15990) ; w(u - v) ; w(getvec(3) - u) }", "", done("1051"))
	wantRun(t, "let start() be { w(getvec(-1)) ; w(getvec(-32768)) ; w(getvec(16000)) ; w(getvec(32767)) ; w(getvec(15999) - 15999) ; w(getvec(0)) ; w(getvec(-1)) }", "", done("0000100"))
	wantRun(t, "let start() be { w(getvec(1) - 15999) ; w(getvec(15998)) ; w(getvec(15997) - 16000) ; w(getvec(0)) }", "", done("1020"))
	wantRun(t, "let start() be { w(getvec(15998) - 15999) ; w(getvec(1)) ; w(getvec(0) - 31998) ; w(getvec(0)) }", "", done("1010"))
	wantRun(t, "let start() be w(getvec(#7fffffff))", "", done("0"))
	// What freevec got does not come back, and is as it was.
	wantRun(t, "let start() be { let v = getvec(15999) ; v ! 1 := 5 ; w(freevec(v)) ; w(freevec(77)) ; w(getvec(0)) ; w(v ! 1) }", "", done("0005"))
	// The words are 0, though they were written before.
	wantRun(t, "let start() be { for i = 15999 to 16011 do ! i := 7 ; let v = getvec(9) ; for i = - 1 to 11 do w(v ! i) }", "", done("7000000000077"))
}

// P8.1
func TestMulDiv(t *testing.T) {
	wantRun(t, "let start() be { w(muldiv(300, 300, 1000)) ; wrch(' ') ; w(muldiv(- 7, 3, - 2)) ; wrch(' ') ; w(- muldiv(- 7, 1, 2)) }", "", done("90 10 3"))
	wantRun(t, "let start() be w(muldiv(20000, 20000, 20001) + 1)", "", done("20000"))
	wantRun(t, "let start() be w(muldiv(40000, 2, 1) + 9)", "", done("14473"), forms[:2]...)
	wantRun(t, "let start() be w(muldiv(40000, 2, 1) + 9)", "", done("80009"), forms[2:]...)
	wantRun(t, "let start() be { wrch('a') ; muldiv(1, 2, 0) }", "", faulted("a", api.ErrZero))
	wantRun(t, "let start() be muldiv(1, 2, 65536)", "", faulted("", api.ErrZero), forms[:2]...)
}

// P8.1: further arguments are not looked at; one that was not pushed is what is in the word.
func TestArgumentsOfGivenProcedures(t *testing.T) {
	wantRun(t, "let start() be { wrch('a', 'b') ; w(rdch('x', 'y')) ; w(getvec(0, 1) - 15999) ; w(muldiv(6, 4, 3, 0)) ; w(freevec(1, 2, 3, 4, 5, 6, 7, 8)) }", "c", done("a99180"))
	// Where an argument would be that was not pushed is the procedure itself, or what was there before.
	wantRun(t, "let start() be stop()", "", stopped("", 32504))
	wantRun(t, "let start() be w(muldiv(7, 32507))", "", done("7"))
	wantRun(t, "let start() be { let x = f(1, 2, 3) ; x := f(1, 2, 3) ; x := muldiv(7) ; w(x) } let f(a, b, c) = 0", "", done("10313"), forms[:2]...)
	wantRun(t, "let start() be { let x = f(1, 2, 3) ; x := f(1, 2, 3) ; x := muldiv(7) ; w(x) } let f(a, b, c) = 0", "", done("75849"), forms[2:]...)
}

// P8.1: the words that given procedures are, wherever they stand.
func TestGivenWords(t *testing.T) {
	wantRun(t, "global { g : 20 } let start() be { g := wrch ; g('A') ; w(g) ; w(- (g = wrch)) ; 32503('B') ; ! 3 := h ; wrch('B') ; g('D') } let h(x) be g(x + 1)", "", done("A325031BCD"))
	names := "rdch wrch stop getvec freevec muldiv createco callco cowait deleteco"
	for i, name := range strings.Fields(names) {
		wantRun(t, "let start() be w("+name+" - "+strconv.Itoa(32502+i)+")", "", done("0"))
	}
}
