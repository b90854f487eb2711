package stack_test

import (
	"math"
	"slices"
	"testing"

	"bluebell/api"
	"bluebell/stack"
)

// Two calls, a jump over labels and a switch: the places of what is there stand before it.
const stepped = "entry 1 1," +
	"enter 1 0,stack 4,num 1,proc 2,call 2,putg 100,jump 1," + // 0 to 6
	"label 2,label 1,stack 2,num 7,switch 2 2,case 6 2,case 7 3,label 3,stack 2,back 0," + // 7 to 16
	"enter 2 1,num 65,result 4,label 5,label 4,take 3,stack 6,stack 7,local 3,global 3,call 5,local 2,return 0" // 17 to 29

// P8.2: each step, and the state behind it.
func TestStates(t *testing.T) {
	c := read(t, stepped)
	at := func(place, depth int) stack.State {
		s := stack.State{Place: place, Frame: 8000, Depth: depth, Proc: 1}
		if place >= 17 {
			s.Frame, s.Proc = 8002, 2
		}
		return s
	}
	want := []stack.State{
		{Frame: 8000}, at(0, 0), at(1, 2), at(2, 4), at(3, 5), at(4, 6),
		at(17, 0), at(18, 3), at(19, 4), at(20+1, 3), at(23, 4), at(24, 6), at(25, 7), at(26, 8), at(27, 9), at(28, 6), at(29, 7),
		at(5, 3), at(6, 2), at(8, 2), at(10, 2), at(11, 3), at(14, 2), at(16, 2), {Ended: true},
	}
	for _, f := range forms {
		m := start(t, c, f, "", 0)
		for i, s := range want {
			out := ""
			if i >= 15 {
				out = "A"
			}
			r := api.Result{Out: out, End: api.Fuel, Steps: i}
			if s.Ended {
				r.End = api.Done
			}
			if got := m.Step(min(i, 1)); got != r || m.State() != s {
				t.Errorf("step %d by %v: %v, %v; want %v, %v", i, f, got, m.State(), r, s)
			}
			for _, n := range []int{0, -1, math.MinInt} {
				if got := m.Step(n); got != r || m.State() != s {
					t.Errorf("Step(%d) by %v: %v, %v", n, f, got, m.State())
				}
			}
		}
		if r := m.Step(5); r != (api.Result{Out: "A", Steps: len(want) - 1}) || !m.State().Ended {
			t.Errorf("behind the end: %v, %v", r, m.State())
		}
		wantPeek(t, m, 100, 1)
	}
}

// P8.2: a run that ends by a fault, or by stop.
func TestEnds(t *testing.T) {
	for src, want := range map[string]api.Result{
		"let start() be { wrch('A') ; stop(5) }":    {Out: "A", End: api.Stopped, Code: 5, Steps: 11},
		"let start() be { wrch('A') ; ! 0 := 1/0 }": {Out: "A", End: api.Fault, Why: api.ErrZero, Steps: 10},
		"let start() be { wrch('A') ; 5() }":        {Out: "A", End: api.Fault, Why: api.ErrCall, Steps: 10},
	} {
		c := compile(t, src)
		for _, n := range []int{1, 3, plenty, math.MaxInt} {
			m := start(t, c, forms[0], "", 0)
			var r api.Result
			for range want.Steps {
				r = m.Step(n)
			}
			if r != want || m.State() != (stack.State{Ended: true}) || m.Walk() != nil || m.Step(n) != want {
				t.Errorf("%s in steps of %d: %v, %v; want %v", src, n, r, m.State(), want)
			}
			wantPeek(t, m, 1, api.MemSize+1)
		}
	}
}

// P8.2: how many steps Until does, and where it comes to.
func TestUntil(t *testing.T) {
	c := read(t, stepped)
	for _, x := range []struct {
		before      int
		places      []int
		n           int
		done, place int
	}{
		{0, []int{0}, plenty, 1, 0}, {0, []int{4, 0}, plenty, 1, 0}, {0, []int{4}, plenty, 5, 4}, {0, []int{4, 3}, plenty, 4, 3}, {0, []int{99, -1, 17, math.MaxInt, math.MinInt}, plenty, 6, 17},
		{5, []int{4}, 3, 3, 19}, {5, []int{4}, 1, 1, 17}, {5, []int{4, 17}, 1, 1, 17}, {1, []int{0}, 2, 2, 2}, {0, nil, 7, 7, 18},
		{17, []int{8}, plenty, 2, 8}, {17, []int{9}, 3, 3, 10}, // a label is the next instruction, one behind it is not
		{17, []int{9, 7, 20, 15}, plenty, 7, 0}, {0, nil, api.MaxSteps, 24, 0}, {0, []int{}, 24, 24, 0}, {0, nil, 23, 23, 16},
	} {
		for _, f := range forms {
			m := start(t, c, f, "", x.before)
			n, err := m.Until(x.places, x.n)
			s := m.State()
			if n != x.done || err != api.OK || s.Place != x.place || s.Ended != (x.before+n == 24) || m.Step(0).Steps != x.before+n {
				t.Errorf("Until(%v, %d) behind %d steps by %v: %d, error %d, %v; want %d, %d", x.places, x.n, x.before, f, n, err, s, x.done, x.place)
			}
		}
	}
}

// P8.2: ErrRange comes before ErrState.
func TestUntilErrors(t *testing.T) {
	for _, steps := range []int{0, 1, 10, plenty} {
		m := start(t, read(t, stepped), forms[0], "", steps)
		before := m.State()
		for _, n := range []int{0, -1, api.MaxSteps + 1, math.MinInt, math.MaxInt} {
			if k, err := m.Until([]int{0}, n); k != 0 || err != api.ErrRange || m.State() != before {
				t.Errorf("Until(.., %d) behind %d steps: %d, error %d", n, steps, k, err)
			}
		}
	}
	m := start(t, read(t, stepped), forms[0], "", plenty)
	for _, n := range []int{1, api.MaxSteps} {
		if k, err := m.Until([]int{0}, n); k != 0 || err != api.ErrState {
			t.Errorf("Until(.., %d) behind the end: %d, error %d", n, k, err)
		}
	}
	// The step that ends the run is one.
	m = start(t, read(t, "words 1"), forms[0], "", 0)
	if k, err := m.Until(nil, 9); k != 1 || err != api.OK || m.Step(0) != (api.Result{End: api.Fault, Why: api.ErrCall, Steps: 1}) {
		t.Errorf("Until without a procedure start: %d, error %d, %v", k, err, m.Step(0))
	}
}

// P8.2: the callers of a procedure that calls itself.
func TestWalk(t *testing.T) {
	c := read(t, "entry 1 1,enter 1 0,stack 7,num 5,proc 2,call 5,back 0,enter 2 1,stack 5,local 2,num 1,bin sub,proc 2,call 3,return 0")
	for _, f := range forms {
		m := start(t, c, f, "", 0)
		if m.Walk() != nil {
			t.Errorf("Walk before the first step: %v", m.Walk())
		}
		m.Step(1)
		if w := m.Walk(); !slices.Equal(w, []stack.State{{Frame: 8000, Proc: 1}}) {
			t.Errorf("Walk in start: %v", w)
		}
		want := []stack.State{{Place: 5, Frame: 8000, Depth: 6, Proc: 1}}
		for frame := 8005; frame < 8100; frame += 3 {
			m.Until([]int{6}, plenty)
			at := stack.State{Place: 6, Frame: frame, Proc: 2}
			if w := m.Walk(); !slices.Equal(w, append([]stack.State{at}, want...)) {
				t.Errorf("Walk at %d: %v", frame, w)
			}
			m.Step(1)
			at.Place, at.Depth = 7, 3
			if w := m.Walk(); !slices.Equal(w, append([]stack.State{at}, want...)) {
				t.Errorf("Walk behind the beginning at %d: %v", frame, w)
			}
			want = append([]stack.State{{Place: 13, Frame: frame, Depth: 4, Proc: 2}}, want...)
		}
	}
}
