package stack_test

import (
	"fmt"
	"slices"
	"strconv"
	"strings"
	"testing"

	"bluebell/api"
	"bluebell/stack"
)

// P8.1: what a call writes, and what a return does.
func TestLinks(t *testing.T) {
	c := read(t, "entry 1 1,enter 1 0,num 8,stack 5,num 1,num 2,proc 2,call 3,putg 100,back 0,enter 2 2,local 2,local 3,bin sub,return 0")
	for _, f := range forms {
		m := start(t, c, f, "", 1)
		wantPeek(t, m, 0, 0, api.MemSize+1)
		wantPeek(t, m, 8000, 8000, -1, 0)
		m.Step(6)
		wantPeek(t, m, 8000, 8000, -1, 8, 0, 0, 1, 2, api.MemSize+2)
		m.Step(1)
		wantPeek(t, m, 8000, 8000, -1, 8, 8000, 7, 1, 2)
		if s := m.State(); s != (stack.State{Place: 9, Frame: 8003, Proc: 2}) {
			t.Errorf("State behind the call: %v", s)
		}
		m.Step(5)
		wantPeek(t, m, 8000, 8000, -1, 8, -1, 7)
		if s := m.State(); s != (stack.State{Place: 7, Frame: 8000, Depth: 4, Proc: 1}) {
			t.Errorf("State behind the return: %v", s)
		}
		m.Step(plenty)
		wantPeek(t, m, 100, -1)
	}
	wantRun(t, "let start() be { w(f()) ; w(g()) } let f() be { } let g() = 3", "", done("03"))
	wantRun(t, "let start() be w(f(1, 2, 3, 4, 5, 6, 7, 8)) let f(a, b, c, d, e, g, h, i) = a * b * c * d + e + g + h + i", "", done("50"))
	// The result of the first call becomes its local 0.
	m := start(t, compile(t, "let start() = 77"), forms[0], "", plenty)
	wantPeek(t, m, 8000, 77)
}

// P8.1: what is no procedure.
func TestCallErrors(t *testing.T) {
	for _, called := range []int{0, 1, -1, 31999, 32000, 32003, 32199, 32500, 32501, 32512, 32767, -32768} {
		wantFault(t, "stack 4,num "+strconv.Itoa(called)+",call 2", api.ErrCall)
	}
	wantFault(t, "stack 4,num -33535,call 2", api.ErrCall, forms[2:]...)
	wantWord(t, "stack 4,num 1,num 5,num -33534,call 2", 5, forms[:2]...) // the procedure 2
	wantWord(t, "stack 4,num 1,num 5,num 32002,call 2", 5)
}

// wantRoom looks at how often a procedure can call itself, with another frame of that size: each call is some steps.
func wantRoom(t *testing.T, lines string, size, room, steps int) {
	t.Helper()
	frames := (api.HeapBase-room-api.StackBase)/size + 1
	for _, f := range forms {
		r, err := stack.Run(read(t, "entry 1 1,"+lines), f, "", plenty)
		if r != (api.Result{End: api.Fault, Why: api.ErrRoom, Steps: 1 + frames*steps}) || err != api.OK {
			t.Errorf("%s by %v: %v, error %d; want %d frames", lines, f, r, err, frames)
		}
	}
}

// P8.1: the last local of a frame's room is at most the last word of the stack.
func TestRoom(t *testing.T) {
	wantRoom(t, "enter 1 0,stack 4,proc 1,call 2,back 0", 2, 5, 4)
	wantRoom(t, "enter 1 0,stack 5,proc 1,call 3,back 0", 3, 6, 4)
	wantRoom(t, "enter 1 0,stack 500,proc 1,call 498,back 0", 498, 501, 4)
	wantRoom(t, "enter 1 0,stack 1000,proc 1,call 2,stack 1000,label 1,stack 4000,back 0", 2, 4000, 4)
	wantRoom(t, "enter 1 8,stack 10,proc 1,call 2,jump 1,label 1,stack 4,label 2,stack 3000,back 0", 2, 3000, 4)
	// A procedure that needs less may still be called where one that needs more may not; a given one needs nothing.
	c := read(t, "entry 1 1,enter 1 0,stack 4,num 66,global 3,call 2,stack 4,proc 2,call 2,stack 4,proc 1,call 2,back 0,enter 2 0,back 0")
	if r, _ := stack.Run(c, forms[0], "", plenty); r.Out != strings.Repeat("B", 3998) || r.Why != api.ErrRoom {
		t.Errorf("%d bytes, %v", len(r.Out), r.Why)
	}
}

// link is instructions that write over the two words of a frame's link.
func link(frame, place int) string {
	return fmt.Sprintf("num %d,addrl 2,num 2,bin sub,store 0,num %d,addrl 2,num 1,bin sub,store 0", frame, place)
}

// P8.1, P8.2: links that were written over. The procedure 2, with its frame at 8002, is called at the place 4; there are calls at 10, 30 and, with another frame, 37.
func TestLinksWrittenOver(t *testing.T) {
	const before, behind = "entry 1 1,enter 1 0,stack 4,stack 4,proc 2,call 2,num 1,putg 100,back 0,stack 4,global 3,call 2,num 2,putg 100,back 0,enter 2 0,", ",num 7,return 0,enter 3 0,stack 4,global 3,call 2,num 4,putg 100,back 0,enter 4 0,stack 5,global 3,call 3,num 3,putg 100,back 0"
	const steps = 17 // up to the result
	for _, x := range []struct {
		frame, place, proc int // where the return leads; ErrCall if the procedure is 0
	}{
		{8000, 5, 1}, {8000, 11, 1}, {8000, 31, 3},
		{8000, 38, 0}, {7999, 38, 0}, {8001, 5, 0}, {8001, 11, 0}, {7999, 5, 0}, {0, 5, 0}, {-1, 5, 0}, {8002, 5, 0}, {16000, 5, 0}, {32000, 5, 0}, {32767, 5, 0},
		{8000, 12, 0}, {8000, 4, 0}, {8000, 6, 0}, {8000, 1, 0}, {8000, 0, 0}, {8000, -2, 0}, {8000, 41, 0}, {8000, 40, 0}, {8000, 32767, 0}, {8000, -32768, 0},
		{8000, -1, 0}, {8002, -1, 0}, {-1, -1, 0}, // no end, as the frame is not the stack's beginning
	} {
		c := read(t, before+link(x.frame, x.place)+behind)
		for _, f := range forms {
			m := start(t, c, f, "", steps)
			states := m.Walk()
			if x.proc == 0 {
				if r := m.Step(2); r != (api.Result{End: api.Fault, Why: api.ErrCall, Steps: steps + 2}) || len(states) != 1 {
					t.Errorf("%v by %v: %v; Walk %v", x, f, r, states)
				}
				continue
			}
			m.Step(2)
			want := stack.State{Place: x.place, Frame: 8000, Depth: 3, Proc: x.proc}
			if s := m.State(); s != want || len(states) != 2 || states[1] != s {
				t.Errorf("%v by %v: %v, Walk %v; want %v", x, f, s, states, want)
			}
			wantPeek(t, m, 8002, 7)
			m.Step(plenty)
			wantPeek(t, m, 100, map[int]int{5: 1, 11: 2, 31: 4}[x.place])
		}
	}
}

// P8.1: the first link that was written over.
func TestFirstLinkWrittenOver(t *testing.T) {
	for at, why := range map[[2]int]api.Errno{
		{8000, -1}: api.OK, {7998, -1}: api.ErrCall, {8001, -1}: api.ErrCall, {0, -1}: api.ErrCall, {-1, -1}: api.ErrCall,
		{8000, 0}: api.ErrCall, {8000, 1}: api.ErrCall, {8000, -2}: api.ErrCall, {8000, 15}: api.ErrCall, {7998, 15}: api.ErrCall,
	} {
		for _, f := range forms {
			r, err := stack.Run(read(t, "entry 1 1,enter 1 0,"+link(at[0], at[1])+",stack 4,num 65,global 3,call 2,back 0"), f, "", plenty)
			want := faulted("A", why)
			if why == api.OK {
				want = done("A")
			}
			if r.Steps = 0; r != want || err != api.OK {
				t.Errorf("%v by %v: %v, error %d; want %v", at, f, r, err, want)
			}
		}
	}
}

// P8.1: a frame that a link put where not all of its locals are in memory. In a coroutine at the end of memory the procedure 2 leads back into the procedure 3, as if that had called it.
func TestBeyondMemory(t *testing.T) {
	// The heap but for the last 12 words; then a coroutine at 31988. The procedure 2 calls 4 at its local 4; that one returns behind a call of 3.
	const begin = "entry 1 1,enter 1 0,stack 4,num 15987,global 5,call 2,stack 4,proc 2,num 11,global 8,call 2,putg 100,stack 4,global 100,num 1,global 9,call 2,back 0,"
	const callers = "enter 2 0,stack 6,proc 4,call 4,back 0,enter 3 0,stack 6,proc 3,call 4,"
	const writer = ",back 0,enter 4 0,num 26,addrl 2,num 1,bin sub,store 0,back 0"
	for lines, ok := range map[string]bool{
		"stack 11,num 1": true, "stack 12,num 1": false, "num 5,stack 12,putl 2": true, "stack 13,putl 2": false, "stack 13,un neg": false, "label 1,stack 5,jump 1": true,
		"stack 10,global 2,call 4": true, "stack 11,global 2,call 8": true, "stack 11,global 7,call 9": false, "stack 11,global 3,call 9": true, "stack 12,global 3,call 9": false, "addrl 30,putg 99": true,
		"stack 20,local 19": false, "num 1,result 1,label 1,take 11": true, "num 1,result 1,label 1,take 12": false, "stack 13,true 1,label 1,stack 2": false, "stack 13,load 0": false,
	} {
		c := read(t, begin+callers+lines+writer)
		place := slices.IndexFunc(c.Ops, func(o api.Op) bool { return o.Op == api.OEnter && o.N == 3 }) + 4
		if place != 26 {
			t.Fatalf("the place is %d", place)
		}
		for _, f := range forms {
			r, err := stack.Run(c, f, "", 200)
			if bad := r.Why == api.ErrAddress; bad == ok || err != api.OK {
				t.Errorf("%s by %v: %v, error %d", lines, f, r, err)
			}
		}
	}
}

// P8.1: the address of a local that is not there is a word, too.
func TestFarAddress(t *testing.T) {
	c := read(t, "entry 1 1,enter 1 0,stack 4,num 15000,global 5,call 2,stack 4,proc 2,num 100,global 8,call 2,putg 98,stack 4,global 98,num 0,global 9,call 2,putg 99,back 0,enter 2 0,addrl 4000,return 0")
	for i, f := range forms {
		m := start(t, c, f, "", plenty)
		far := 31001 + 4000
		if i < 2 {
			far -= 65536
		}
		wantPeek(t, m, 98, 31001, far)
	}
}
