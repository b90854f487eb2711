package stack_test

import (
	"slices"
	"testing"

	"bluebell/api"
	"bluebell/stack"
)

// P8.3: how often instructions began; not labels and cases, but the one that is a fault.
func TestProfile(t *testing.T) {
	c := read(t, stepped)
	want := []int{0: 1, 1, 1, 1, 1, 1, 1, 0, 0, 1, 1, 1, 0, 0, 0, 1, 1, 1, 1, 1, 0, 0, 1, 1, 1, 1, 1, 1, 1, 1}
	for _, f := range forms {
		if l, err := stack.Profile(c, f, "", plenty); !slices.Equal(l, want) || err != api.OK {
			t.Errorf("Profile by %v: %v, error %d; want %v", f, l, err, want)
		}
		for fuel := range 26 {
			l, err := stack.Profile(c, f, "", fuel)
			sum := 0
			for _, n := range l {
				sum += n
			}
			if sum != max(min(fuel, 24)-1, 0) || len(l) != len(c.Ops) || err != api.OK {
				t.Errorf("Profile by %v with fuel %d: %v, error %d", f, fuel, l, err)
			}
		}
	}
	loop := read(t, "entry 1 1,enter 1 0,num 3,label 1,stack 3,local 2,num 1,bin sub,putl 2,local 2,true 1,stack 4,num 0,load 0,num 1,num 0,bin div,back 0")
	if l, err := stack.Profile(loop, forms[0], "", plenty); !slices.Equal(l, []int{1, 1, 0, 3, 3, 3, 3, 3, 3, 3, 1, 1, 1, 1, 1, 1, 0}) || err != api.OK {
		t.Errorf("Profile of a loop: %v, error %d", l, err)
	}
	for _, c := range []api.Code{{}, read(t, "enter 1 0,back 0")} {
		if l, err := stack.Profile(c, forms[0], "", plenty); len(l) != len(c.Ops) || slices.Max(append(l, 0)) != 0 || err != api.OK {
			t.Errorf("Profile without a procedure start: %v, error %d", l, err)
		}
	}
}

// P8.3: which procedures were called, by instructions and as coroutines; not by a call that is a fault.
func TestCover(t *testing.T) {
	for src, want := range map[string][]bool{
		"let start() be { } let f() = 1":                                {true, false, false},
		"let f() = 1 let g() = f() let start() be g()":                  {true, true, true, false},
		"let f() = 1 let g() = f() let start() be { let p = g ; f() }":  {true, false, true, false},
		"let start() be createco(f, 50) let f() = 1":                    {true, false, false},
		"let start() be callco(createco(f, 50), 1) let f() = 1":         {true, true, false},
		"let start() be callco(createco(f, 50), 1) let f() = cowait(w)": {true, true, false},
		"let start() be callco(createco(f, 1), 1) let f(x) = 1":         {true, false, false},
		"let start() be { stop(1) ; f() } let f() = 1":                  {true, false, false},
		"let start() be { let v = vec 2000 ; f(v) } let f(v) be { let v = vec 2000 ; g(v) } let g(v) be { let v = vec 2000 ; h(v) } let h(v) be { let v = vec 2000 ; }": {true, true, true, false, false},
	} {
		if l, err := stack.Cover(compile(t, src), forms[0], "", plenty); !slices.Equal(l, want) || err != api.OK {
			t.Errorf("Cover(%q): %v, error %d; want %v", src, l, err, want)
		}
	}
	c := compile(t, "let f() = 1 let start() be f()")
	for fuel, want := range map[int][]bool{0: {false, false, false}, 1: {false, true, false}, 4: {false, true, false}, 5: {true, true, false}} {
		if l, err := stack.Cover(c, forms[0], "", fuel); !slices.Equal(l, want) || err != api.OK {
			t.Errorf("Cover with fuel %d: %v, error %d; want %v", fuel, l, err, want)
		}
	}
	if l, err := stack.Cover(api.Code{}, forms[0], "", 5); len(l) != 0 || err != api.OK {
		t.Errorf("Cover without procedures: %v, error %d", l, err)
	}
}
