package stack_test

import (
	"math"
	"slices"
	"strings"
	"testing"

	"bluebell/api"
	"bluebell/ocode"
	"bluebell/stack"
	"bluebell/word"
)

// wantError calls all functions that take code.
func wantError(t *testing.T, c api.Code, f api.Form, input string, fuel int, want api.Errno) {
	t.Helper()
	r, err1 := stack.Run(c, f, input, fuel)
	counts, err2 := stack.Profile(c, f, input, fuel)
	called, err3 := stack.Cover(c, f, input, fuel)
	if err1 != want || err2 != want || err3 != want {
		t.Errorf("Run, Profile, Cover: errors %d, %d, %d; want %d", err1, err2, err3, want)
	}
	if r != (api.Result{}) || len(counts) != 0 || len(called) != 0 {
		t.Errorf("results together with an error: %v, %v, %v", r, counts, called)
	}
	m, err := stack.New(c, f, input)
	if want == api.ErrRange {
		want = api.OK // New is told no fuel
	}
	if err != want || (m == nil) != (want != api.OK) {
		t.Errorf("New: %v, error %d; want %d", m, err, want)
	}
}

// P8.1, P8.3: which error comes first.
func TestErrors(t *testing.T) {
	good := read(t, "entry 1 1,enter 1 0,back 0")
	long := strings.Repeat("x", api.MaxInput+1)
	noOp, noDepth, noRoom := good, good, good
	noOp.Ops = []api.Op{{Op: 99}}
	noDepth.Ops = []api.Op{{Op: api.OEnter, N: 1}, {Op: api.OReturn}}
	noRoom.Data = make([]api.Data, 2001)
	for c, want := range map[*api.Code]api.Errno{&noOp: api.ErrCode, &noDepth: api.ErrStack, &noRoom: api.ErrLimit} {
		wantError(t, *c, api.Form{}, long, -1, want)
		wantError(t, *c, forms[0], "", 1, want)
	}
	for _, f := range []api.Form{{}, {Bits: 8}, {Bits: 17}, {Bits: 64}, {Bits: -16}, {Big: true}} {
		wantError(t, good, f, long, -1, api.ErrForm)
		wantError(t, good, f, "", 1, api.ErrForm)
	}
	for _, f := range forms {
		wantError(t, good, f, long, -1, api.ErrLimit)
		wantError(t, good, f, long, 1, api.ErrLimit)
		for _, fuel := range []int{-1, api.MaxSteps + 1, math.MinInt, math.MaxInt} {
			wantError(t, good, f, long[1:], fuel, api.ErrRange)
		}
		if r, err := stack.Run(good, f, long[1:], api.MaxSteps); r != (api.Result{Steps: 3}) || err != api.OK {
			t.Errorf("Run by %v: %v, error %d", f, r, err)
		}
	}
}

// P8.1: a program without a procedure start is a fault.
func TestNoStart(t *testing.T) {
	for _, lines := range []string{"words 1", "enter 1 0,back 0", "entry 2 1,entry 199 1,enter 1 0,back 0"} {
		for _, f := range forms {
			if r, err := stack.Run(read(t, lines), f, "", plenty); r != (api.Result{End: api.Fault, Why: api.ErrCall, Steps: 1}) || err != api.OK {
				t.Errorf("%s by %v: %v, error %d", lines, f, r, err)
			}
		}
	}
	if r, err := stack.Run(api.Code{}, forms[0], "", 0); r != (api.Result{End: api.Fuel}) || err != api.OK {
		t.Errorf("without steps: %v, error %d", r, err)
	}
}

// P8.1: memory at first.
func TestFirstMemory(t *testing.T) {
	c := read(t, "text \"AB\",words 1 -2 70000 -1000000,text \"\",entry 5 2,entry 199 1,enter 1 0,back 0,enter 2 0,back 0")
	for _, f := range forms {
		m := start(t, c, f, "", 0)
		want := make([]int, api.MemSize)
		for g := 2; g <= 11; g++ {
			want[g] = api.MemSize + 500 + g
		}
		want[5], want[199] = api.MemSize+2, api.MemSize+1
		at := 200
		for _, d := range c.Data {
			words, _ := ocode.Words(d, f)
			at += copy(want[at:], words)
		}
		wantPeek(t, m, 0, want...)
		for _, a := range []int{-1, api.MemSize, math.MinInt, math.MaxInt} {
			if w, err := m.Peek(a); w != 0 || err != api.ErrAddress {
				t.Errorf("Peek(%d): %d, error %d", a, w, err)
			}
		}
	}
	m := start(t, read(t, "words 70000,entry 1 1,enter 1 0,back 0"), forms[0], "", 0)
	wantPeek(t, m, 0, 0, api.MemSize+1, api.MemSize+502)
	wantPeek(t, m, 200, 4464, 0)
}

// P8.1: arguments are neither changed nor kept.
func TestArguments(t *testing.T) {
	c := read(t, "words 65,entry 1 1,enter 1 0,stack 4,static 0,global 3,call 2,back 0")
	old, err := ocode.Renumber(c)
	m := start(t, c, forms[0], "", 0)
	if !ocode.Same(c, old) || err != api.OK {
		t.Error("New changes its argument")
	}
	c.Data[0].Words[0], c.Globals[0] = 66, api.Entry{Global: 2, Proc: 1}
	clear(c.Ops)
	if r := m.Step(plenty); r != (api.Result{Out: "A", Steps: 7}) {
		t.Errorf("with code that was changed: %v", r)
	}
}

// P8.1
func TestRuns(t *testing.T) {
	wantRun(t, "let start() be wrch('A')", "", done("A"))
	wantRun(t, "let start() = 5", "", done(""))
	wantRun(t, "let start() be { let c = rdch() ; until c < 0 do { wrch(c) ; c := rdch() } ; wrch(c + '1') }", "a\x00\xff\n", done("a\x00\xff\n0"))
	wantRun(t, "let start() be { wrch('a') ; stop(-3) ; wrch('b') }", "", stopped("a", -3))
	wantRun(t, "let start() be { wrch('a') ; finish }", "", stopped("a", 0))
	wantRun(t, "let start() be { wrch('a') ; w(1 / (w(3) * 0)) }", "", faulted("a3", api.ErrZero))
	wantRun(t, "let start() be start()", "", faulted("", api.ErrRoom))
	wantRun(t, "let start() be { w(fib(15)) ; wrch(' ') ; w(ack(2, 3)) } let fib(n) = n < 2 -> n, fib(n - 1) + fib(n - 2) let ack(m, n) = m = 0 -> n + 1, n = 0 -> ack(m - 1, 1), ack(m - 1, ack(m, n - 1))", "", done("610 9"))
	wantRun(t, "static { s = 40000 } let start() be { test s < 0 then wrch('-') else wrch('+') }", "", done("-"), forms[:2]...)
	wantRun(t, "static { s = 40000 } let start() be { test s < 0 then wrch('-') else wrch('+') }", "", done("+"), forms[2:]...)
}

// P8.1: a run uses up its steps, or not.
func TestFuel(t *testing.T) {
	c := read(t, "entry 1 1,enter 1 0,label 1,stack 2,stack 4,num 65,global 3,call 2,jump 1")
	for fuel, want := range map[int]string{0: "", 1: "", 6: "", 7: "A", 12: "A", 13: "AA", 18: "AA", 19: "AAA"} {
		if r, err := stack.Run(c, forms[0], "", fuel); err != api.OK || r != (api.Result{Out: want, End: api.Fuel, Steps: fuel}) {
			t.Errorf("with fuel %d: %v, error %d", fuel, r, err)
		}
	}
	c = compile(t, "let start() be wrch('A')")
	for fuel, want := range map[int]api.Result{0: {End: api.Fuel}, 1: {End: api.Fuel, Steps: 1}, 7: {Out: "A", End: api.Fuel, Steps: 7}, 8: {Out: "A", Steps: 8}, 9: {Out: "A", Steps: 8}} {
		if r, err := stack.Run(c, forms[0], "", fuel); r != want || err != api.OK {
			t.Errorf("with fuel %d: %v, error %d; want %v", fuel, r, err, want)
		}
	}
}

// Methods of a machine that New did not make.
func TestNoMachine(t *testing.T) {
	for _, m := range []*stack.Machine{nil, {}} {
		w, err1 := m.Peek(0)
		n, err2 := m.Until([]int{0}, 0)
		if r := m.Step(1); r != (api.Result{}) || m.State() != (stack.State{}) || m.Walk() != nil || w != 0 || err1 != api.ErrForm || n != 0 || err2 != api.ErrForm {
			t.Errorf("%v, %v, %v, %d, error %d, %d, error %d", r, m.State(), m.Walk(), w, err1, n, err2)
		}
	}
}

// Code may be longer than the numbers that words of 16 bits have without their sign: links lead back all the same.
func TestLongCode(t *testing.T) {
	c := read(t, "entry 1 1,enter 1 0,"+strings.Repeat("stack 2,", 33000)+"stack 4,num 66,proc 2,call 2,stack 2,back 0,enter 2 1,stack 5,local 2,global 3,call 3,back 0")
	for _, f := range forms {
		r, err := stack.Run(c, f, "", plenty)
		if r != (api.Result{Out: "B", Steps: 33014}) || err != api.OK {
			t.Errorf("by %v: %v, error %d", f, r, err)
		}
		m := start(t, c, f, "", 0)
		m.Until([]int{33009}, plenty)
		want := []stack.State{{Place: 33009, Frame: api.StackBase + 2, Depth: 5, Proc: 2}, {Place: 33005, Frame: api.StackBase, Depth: 3, Proc: 1}}
		if w := m.Walk(); !slices.Equal(w, want) {
			t.Errorf("Walk by %v: %v; want %v", f, w, want)
		}
		place, _ := word.Norm(33005, f.Bits)
		wantPeek(t, m, 8002, 8000, place)
	}
}
