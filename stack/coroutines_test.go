package stack_test

import (
	"slices"
	"testing"

	"bluebell/api"
	"bluebell/stack"
)

// P8.1: what callco and cowait give, and where they go on.
func TestCoroutines(t *testing.T) {
	wantRun(t, "let start() be { let c = createco(f, 100) ; w(callco(c, 4)) ; w(callco(c, 7)) } let f(x) = x + 1", "", done("58"))
	wantRun(t, "let start() be { let c = createco(f, 100) ; for i = 1 to 7 do { w(callco(c, i)) ; wrch(' ') } } let f(x) = valof { let y = cowait(x + 10) ; y := cowait(x * y) ; resultis x * 100 + y }", "", done("11 2 103 14 20 406 17 "))
	wantRun(t, "let start() be { let c = createco(f, 100) ; w(callco(c, 4)) ; w(callco(c, 5)) ; w(callco(c, 6)) } let f(x) be { w(x) ; w(cowait(9)) }", "", done("495069"))
	wantRun(t, "let start() be { let c = createco(f, 100) ; w(callco(c, 0)) ; w(callco(c, 0)) ; w(callco(c, 0)) } let f(x) be { cowait(1) ; g() ; cowait(3) } let g() be cowait(2)", "", done("123"))
	// One without a parameter gets the word all the same, one with more finds what is there.
	wantRun(t, "let start() be { let c = createco(f, 9) ; ! 16003 := 8 ; w(callco(c, 4)) ; c := createco(g, 9) ; w(callco(c, 4)) } let f(a, b) = a * 10 + b let g() = 7", "", done("487"))
	wantRun(t, "let start() be { let c, v = createco(f, 1), getvec(0) ; callco(c, 7) ; w(! v) } let f() be { }", "", done("7"))
	wantRun(t, "let start() be { getvec(15997) ; callco(createco(f, 1), 7) } let f() be { }", "", faulted("", api.ErrAddress))
	wantRun(t, "let start() be { getvec(15996) ; w(callco(createco(f, 2), 7)) } let f() be { }", "", done("0"))
	// Arguments that were not pushed.
	wantRun(t, "let start() be w(callco(createco(f, 9))) let f(x) = x", "", done("32509"))
	wantRun(t, "let start() be { w(callco(createco(f, 9), 1, 2)) ; w(deleteco(createco(f, 9, 9), 9)) } let f(x) = cowait(x + 5, 4)", "", done("60"))
	// A routine ends the run, or a division faults, within one.
	wantRun(t, "let start() be callco(createco(f, 20), 3) let f(x) be { w(x) ; stop(x) }", "", stopped("3", 3))
	wantRun(t, "let start() be callco(createco(f, 20), 0) let f(x) be w(1 / x)", "", faulted("", api.ErrZero))
}

// P8.1: coroutines that call others.
func TestNestedCoroutines(t *testing.T) {
	// a calls b, b calls c; each of them waits and goes on, for its own parent.
	const chain = "static { b = 0 ; c = 0 } let start() be { let a = createco(fa, 60) ; b := createco(fb, 60) ; c := createco(fc, 60) ; for i = 1 to 3 do { w(callco(a, i)) ; wrch(' ') } }" +
		" let fa(x) = valof { while true do x := cowait(callco(b, x) + 100) } let fb(x) = valof { while true do x := cowait(callco(c, x) + 10) } let fc(x) = valof { while true do x := cowait(x * 2) }"
	wantRun(t, chain, "", done("112 114 116 "))
	// Another parent each time.
	wantRun(t, "static { b = 0 } let start() be { let a, c = createco(f, 60), createco(f, 60) ; b := createco(g, 60) ; w(callco(a, 1)) ; w(callco(b, 2)) ; w(callco(c, 3)) ; w(callco(a, 4)) } let f(x) = callco(b, x) let g(x) = valof { let n = 0 ; while true do { n := n + x ; x := cowait(n) } }", "", done("13610"))
	// One makes others, and deletes them.
	wantRun(t, "let start() be w(callco(createco(f, 200), 5)) let f(n) = valof { let c, r = createco(f, 100), 0 ; if n = 0 do resultis 1 ; r := callco(c, n - 1) ; deleteco(c) ; resultis n * r }", "", done("120"))
}

// P8.1: what may not be called, waited in or deleted.
func TestCoroutineErrors(t *testing.T) {
	for src, why := range map[string]api.Errno{
		"cowait(1)":    api.ErrState,
		"callco(0, 1)": api.ErrCall, "callco(5, 1)": api.ErrCall, "callco(f, 1)": api.ErrCall, "callco(getvec(9), 1)": api.ErrCall, "callco(createco(f, 9) + 1, 1)": api.ErrCall, "callco(16000, 1)": api.ErrCall, "callco(8000, 1)": api.ErrCall,
		"deleteco(0)": api.ErrCall, "deleteco(f)": api.ErrCall, "deleteco(8000)": api.ErrCall, "let c = createco(f, 9) ; deleteco(c) ; deleteco(c)": api.ErrCall, "let c = createco(f, 9) ; deleteco(c) ; callco(c, 1)": api.ErrCall,
		"let c = createco(g, 50) ; callco(c, 1) ; deleteco(c) ; callco(c, 1)": api.ErrCall,
		"callco(createco(5, 50), 1)":                                          api.ErrCall, "callco(createco(wrch, 50), 1)": api.ErrCall, "callco(createco(0, 0), 1)": api.ErrCall, "callco(createco(32000, 50), 1)": api.ErrCall,
		"callco(createco(f, - 1), 1)": api.ErrCall, "callco(createco(f, 16000), 1)": api.ErrCall,
		"callco(createco(f, 0), 1)": api.ErrRoom, "callco(createco(f, 2), 1)": api.ErrRoom, "callco(createco(f, 3), 1)": api.OK,
		"callco(createco(h, 1000), 1)": api.ErrRoom, "callco(createco(own, 50), 16000)": api.ErrState, "callco(createco(ends, 50), 16000)": api.ErrState,
		"callco(createco(parent, 50), 1)": api.ErrState, "callco(createco(kills, 50), 1)": api.ErrState, "callco(createco(waits, 50), 1) ; cowait(1)": api.ErrState,
		"let c = createco(f, 50) ; callco(c, 1) ; callco(c, 1) ; deleteco(c) ; createco(f, 50)": api.OK,
	} {
		want := faulted(".", why)
		if why == api.OK {
			want = done(".")
		}
		wantRun(t, "let start() be { wrch('.') ; "+src+" }"+
			" let f(x) = x let g(x) = cowait(x) let h(x) be h(x) let own(x) be callco(x, x) let ends(x) be deleteco(x) let parent(x) be callco(createco(up, 50), 1) let up(x) be callco(16000, 1) let kills(x) be callco(createco(upper, 50), 1) let upper(x) be deleteco(16000) let waits(x) be cowait(x)", "", want)
	}
	// 0 is what createco gives if there is no room, and it takes nothing then.
	wantRun(t, "let start() be { w(createco(f, - 1)) ; w(createco(f, 16000)) ; w(createco(f, 15999) - 15999) ; w(createco(f, 0)) } let f(x) = x", "", done("0010"))
}

// P8.1: a coroutine has the room of its own stack, and the main program that of its own.
func TestCoroutineRoom(t *testing.T) {
	const src = "static { n = 0 } let start() be { let c = createco(deep, 1000) ; callco(c, 0) } let deep(x) be { n := n + 1 ; w(n) ; wrch(' ') ; deep(x) }"
	c := compile(t, src)
	r, _ := stack.Run(c, forms[0], "", plenty)
	if r.Why != api.ErrRoom {
		t.Errorf("%v", r)
	}
	// Behind that the main program still has its room, and a coroutine the room of what it was at its beginning.
	wantRun(t, "let start() be { let c = createco(deep, 500) ; w(callco(c, 30)) ; w(callco(c, 30)) ; w(deep(500)) } let deep(x) = x = 0 -> 0, deep(x - 1)", "", done("000"))
	wantRun(t, "let start() be { let c = createco(deep, 500) ; w(callco(c, 500)) } let deep(x) = x = 0 -> 0, deep(x - 1)", "", faulted("", api.ErrRoom))
}

// P8.6: coroutines made of the same procedure do not see each other's locals.
func TestOwnLocals(t *testing.T) {
	wantRun(t, "let start() be { let a, b, c = createco(f, 60), createco(f, 60), createco(f, 60) ; callco(a, 1) ; callco(b, 2) ; callco(c, 3) ; for i = 1 to 3 do { w(callco(a, i)) ; wrch(' ') ; w(callco(c, i)) ; wrch(' ') ; w(callco(b, i)) ; wrch(' ') } ; w(@ a - 8002) }"+
		" let f(x) = valof { let sum = x * 100 ; let v = vec 5 ; for i = 0 to 5 do v ! i := x ; while true do { let y = cowait(sum + v ! 5) ; sum := sum + y ; v ! 5 := v ! 5 + v ! 0 } }",
		"", done("103 307 205 106 312 209 110 318 214 0"))
	// Each one in a call of its own depth.
	wantRun(t, "let start() be { let a, b = createco(f, 200), createco(f, 200) ; for i = 1 to 8 do { w(callco(a, i)) ; w(callco(b, i + 1)) } } let f(n) = valof { for i = 1 to n do g(i) ; resultis 9 } let g(n) be { if n > 1 do g(n - 1) ; cowait(n) }", "", done("1191121921112231"))
}

// P8.2: the states of callers in parents.
func TestWalkOfCoroutines(t *testing.T) {
	const src = "static { b = 0 } let start() be { let a = createco(fa, 60) ; b := createco(fb, 60) ; callco(a, 5) ; callco(a, 5) } let fa(x) be { callco(b, x) ; cowait(2) } let fb(x) be g(x) let g(x) be cowait(1)"
	c := compile(t, src)
	calls := map[int][]int{} // of each procedure, the places behind its calls
	proc := 0
	for i, o := range c.Ops {
		switch o.Op {
		case api.OEnter:
			proc = o.N
		case api.OCall:
			calls[proc] = append(calls[proc], i+1)
		}
	}
	for _, f := range forms {
		m := start(t, c, f, "", 0)
		inMain := stack.State{Place: calls[1][2], Frame: 8000, Depth: 4, Proc: 1}
		inA := stack.State{Place: calls[2][0], Frame: 16000, Depth: 4, Proc: 2, Co: 16000}
		inB := stack.State{Place: calls[3][0], Frame: 16061, Depth: 4, Proc: 3, Co: 16061}
		inG := stack.State{Place: calls[4][0], Frame: 16064, Depth: 3, Proc: 4, Co: 16061}
		m.Until([]int{calls[4][0] - 1}, plenty)
		inG.Place, inG.Depth = inG.Place-1, 7
		if w, want := m.Walk(), []stack.State{inG, inB, inA, inMain}; !slices.Equal(w, want) || m.State() != inG {
			t.Errorf("Walk in g: %v; want %v", w, want)
		}
		m.Step(1)
		if w, want := m.Walk(), []stack.State{inA, inMain}; !slices.Equal(w, want) {
			t.Errorf("Walk behind the cowait: %v; want %v", w, want)
		}
		m.Until([]int{inMain.Place}, plenty)
		if w, want := m.Walk(), []stack.State{inMain}; !slices.Equal(w, want) {
			t.Errorf("Walk in start: %v; want %v", w, want)
		}
		m.Until([]int{calls[1][3] - 1}, plenty)
		m.Step(1)
		inA.Place, inA.Depth = calls[2][1], 4
		inMain.Place = calls[1][3]
		if w, want := m.Walk(), []stack.State{inA, inMain}; !slices.Equal(w, want) {
			t.Errorf("Walk behind the second callco: %v; want %v", w, want)
		}
		if r := m.Step(plenty); r.End != api.Done || m.Walk() != nil {
			t.Errorf("%v, Walk %v", r, m.Walk())
		}
	}
}

// P8.1: the words that a coroutine's beginning writes, and its link that was written over.
func TestCoroutineLinks(t *testing.T) {
	const begin = "entry 1 1,enter 1 0,stack 4,proc 2,num 50,global 8,call 2,putg 100,stack 4,global 100,num 65,global 9,call 2,putg 101,stack 4,global 100,num 66,global 9,call 2,putg 102,back 0,enter 2 1,"
	for _, f := range forms {
		m := start(t, read(t, begin+"stack 5,stack 7,local 2,global 10,call 5,return 0"), f, "", 0)
		m.Until([]int{20}, plenty)
		if s, want := m.State(), (stack.State{Place: 20, Frame: 16000, Proc: 2, Co: 16000}); s != want {
			t.Errorf("State at the beginning: %v; want %v", s, want)
		}
		wantPeek(t, m, 16000, 16000, -1, 65, 0)
		if r := m.Step(plenty); r.End != api.Done {
			t.Errorf("%v", r)
		}
		wantPeek(t, m, 100, 16000, 65, 66)
		for lines, why := range map[string]api.Errno{
			"num 16000,addrl 2,num 2": api.OK, "num -1,addrl 2,num 1": api.OK, "num 8000,addrl 2,num 2": api.ErrCall, "num 15998,addrl 2,num 2": api.ErrCall, "num 0,addrl 2,num 1": api.ErrCall, "num 12,addrl 2,num 1": api.ErrCall,
		} {
			r, err := stack.Run(read(t, begin+lines+",bin sub,store 0,local 2,return 0"), f, "", plenty)
			if r.Why != why || err != api.OK {
				t.Errorf("%s by %v: %v, error %d", lines, f, r, err)
			}
		}
	}
}
