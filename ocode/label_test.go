package ocode_test

import (
	"slices"
	"testing"

	"bluebell/api"
	"bluebell/ocode"
)

// P6.4: labels that are named by each instruction that names one, and labels that nothing names.
func TestJumps(t *testing.T) {
	for s, want := range map[string][]int{
		"enter 1, back": {},
		"enter 1, jump 1, label 1, stack 2, back":                                              {1},
		"enter 1, back, label 3, stack 2, back":                                                {0, 0, 0},
		"enter 1 2, true 2, false 2, jump 4, label 2, stack 3, jump 2, label 4, stack 4, back": {0, 3, 0, 1},
		"enter 1 2, result 1, label 1, take 3, result 1, label 2, stack 4, jump 2":             {2, 1},
		"enter 1 2, switch 1 3, case 5 2, case 2 2, case 1 1, label 1, label 2, stack 3, back": {2, 2},
		"enter 1, jump 2, label 2, stack 2, back, enter 2, label 1, stack 2, jump 1":           {1, 1},
		"enter 1, num 1, num 2, stack 3, switch 1 0, label 1, stack 2, back":                   {1},
	} {
		if l, err := ocode.Jumps(assemble(s)); !slices.Equal(l, want) || err != api.OK {
			t.Errorf("Jumps(%s) = %v, error %d; want %v", s, l, err, want)
		}
	}
	if l, err := ocode.Jumps(api.Code{}); len(l) != 0 || err != api.OK {
		t.Errorf("Jumps of nothing: %v, %d", l, err)
	}
}

// P6.4: labels in their order, with every instruction that names them, and nothing else changed.
func TestRenumber(t *testing.T) {
	for s, want := range map[string]string{
		"enter 1, back":                         "enter 1, back",
		"enter 1, back, label 9, stack 2, back": "enter 1, back, label 1, stack 2, back",
		"enter 1 4, true 7, false 3, switch 5 2, case 7 3, case 3 7, label 3, label 7, stack 3, num 2, result 1, label 5, stack 5, jump 3, label 1, take 3, back": "enter 1 4, true 2, false 1, switch 3 2, case 7 1, case 3 2, label 1, label 2, stack 3, num 2, result 4, label 3, stack 5, jump 1, label 4, take 3, back",
		"enter 1, jump 2, label 2, stack 2, back, enter 2 2, local 2, putl 3, jump 1, label 1, stack 2, back":                                                     "enter 1, jump 1, label 1, stack 2, back, enter 2 2, local 2, putl 3, jump 2, label 2, stack 2, back",
	} {
		c := assemble(s)
		c.Globals = []api.Entry{{Global: 7, Proc: 1}}
		wanted := assemble(want)
		wanted.Globals = c.Globals
		if got, err := ocode.Renumber(c); !ocode.Same(got, wanted) || err != api.OK {
			t.Errorf("Renumber(%s) = %v, error %d; want %v", s, got, err, wanted)
		}
	}
	if got, err := ocode.Renumber(api.Code{}); !ocode.Same(got, api.Code{}) || err != api.OK {
		t.Errorf("Renumber of nothing: %v, %d", got, err)
	}
}

// R4: the argument stays as it is, and the result shares nothing with it.
func TestRenumberIsNew(t *testing.T) {
	c := assemble("enter 1, jump 5, label 5, stack 2, back")
	c.Globals = []api.Entry{{Global: 1, Proc: 1}}
	old := copied(c)
	got, _ := ocode.Renumber(c)
	if !ocode.Same(c, old) {
		t.Errorf("the argument is %v; was %v", c, old)
	}
	wanted := copied(got)
	c.Ops[0], c.Globals[0], c.Data[0].Words[0], c.Data[1].Text = api.Op{}, api.Entry{}, 9, "x"
	if !ocode.Same(got, wanted) {
		t.Errorf("the result is %v; was %v", got, wanted)
	}
}

// P6.6: Renumber of Renumber is Renumber, and changes no depth, nor how often labels are named.
func TestRenumberAgain(t *testing.T) {
	changed := 0
	overCodes(30000, 600, func(m *maker, c api.Code) {
		once, err := ocode.Renumber(c)
		if err != api.OK || ocode.Check(once) != api.OK {
			t.Fatalf("Renumber(%v) = %v, error %d", c, once, err)
		}
		if twice, err := ocode.Renumber(once); !ocode.Same(twice, once) || err != api.OK {
			t.Fatalf("Renumber(%v) = %v, error %d", once, twice, err)
		}
		if !ocode.Same(once, c) {
			changed++
		}
		before, _ := ocode.Depths(c)
		behind, _ := ocode.Depths(once)
		if !slices.Equal(before, behind) {
			t.Fatalf("%v: depths %v, then %v", c, before, behind)
		}
		checkLabels(t, c, once)
	})
	if changed < 200 {
		t.Errorf("only %d codes changed", changed)
	}
}

// checkLabels checks that labels have the numbers 1, 2, .. in their order, and are named by what named them.
func checkLabels(t *testing.T, c, once api.Code) {
	t.Helper()
	before, _ := ocode.Jumps(c)
	behind, _ := ocode.Jumps(once)
	count := 0
	for i, o := range once.Ops {
		if o.Op != api.OLabel {
			continue
		}
		count++
		if o.N != count || behind[o.N-1] != before[c.Ops[i].N-1] {
			t.Fatalf("%v: the label %d is %d; want %d", c, c.Ops[i].N, o.N, count)
		}
	}
	if once.Labels != count {
		t.Fatalf("%v: %d labels; want %d", once, once.Labels, count)
	}
	r, s := newReference(c), newReference(once)
	for i := range c.Ops {
		if l := r.label(i); l != 0 && r.place(l) != s.place(s.label(i)) {
			t.Fatalf("%v: the instruction %d leads elsewhere", c, i)
		}
	}
}
