package ocode_test

import (
	"slices"
	"testing"

	"bluebell/api"
	"bluebell/ocode"
)

// wantDepths checks the depths before instructions, and the rooms.
func wantDepths(t *testing.T, s string, depths, room []int) {
	t.Helper()
	if l, err := ocode.Depths(assemble(s)); !slices.Equal(l, depths) || err != api.OK {
		t.Errorf("Depths(%s) = %v, error %d; want %v", s, l, err, depths)
	}
	if l, err := ocode.Room(assemble(s)); !slices.Equal(l, room) || err != api.OK {
		t.Errorf("Room(%s) = %v, error %d; want %v", s, l, err, room)
	}
}

// P6.3: what each instruction does to the depth, which is 8 before it.
func TestEffects(t *testing.T) {
	for s, depth := range map[string]int{
		"num 1": 9, "local 2": 9, "addrl 2": 9, "global 1": 9, "addrg 1": 9, "static 1": 9, "addrs 1": 9, "proc 1": 9, "putl 2": 7, "putg 1": 7, "puts 1": 7, "bin sub": 7, "getb": 7, "true 1": 7, "false 1": 7, "switch 1 0": 7, "return": 7, "result 2": 7,
		"load": 8, "un not": 8, "jump 1": 8, "back": 8, "store": 6, "putb": 5, "stack 3": 3, "stack 100": 100, "call 2": 3, "call 5": 6,
	} {
		wantDepths(t, "enter 1 6, "+s+", stack 2, back, label 2, take 11, back, stack 2, label 1, stack 2, back", []int{0, 8, depth, 2, 2, 2, 12, 12, 2, 2, 2}, []int{max(12, depth)})
	}
}

// P6.3: depths go through the text; a label's depth is that of the instruction before it.
func TestDepths(t *testing.T) {
	wantDepths(t, "enter 1, back", []int{0, 2}, []int{2})
	wantDepths(t, "enter 1 8, back, enter 2, num 65, return, enter 3 1, back", []int{0, 10, 0, 2, 3, 0, 3}, []int{10, 3, 3})
	wantDepths(t, "enter 1, num 65, global 3, putg 20, return", []int{0, 2, 3, 4, 3}, []int{4})
	wantDepths(t, "enter 1 1, local 2, switch 1 2, case 5 2, case 6 1, label 1, label 2, stack 3, back", []int{0, 3, 4, 3, 3, 3, 3, 3, 3}, []int{4})
	wantDepths(t, "enter 1, jump 1, num 1, num 2, label 1, stack 2, num 7, result 2, label 2, take 5, return", []int{0, 2, 2, 3, 4, 4, 2, 3, 2, 2, 6}, []int{6})
	wantDepths(t, "enter 1 2, return, return, num 1, num 1, back, num 3, back", []int{0, 4, 3, 2, 3, 4, 4, 5}, []int{5})
	wantDepths(t, "enter 1, jump 1, label 1, stack 4000, back", []int{0, 2, 2, 2, 4000}, []int{4000})
	wantDepths(t, "enter 1 2, back, take 3999, return", []int{0, 4, 4, 4000}, []int{4000})
	if l, err := ocode.Depths(api.Code{}); len(l) != 0 || err != api.OK {
		t.Errorf("Depths of nothing: %v, %d", l, err)
	}
	if l, err := ocode.Room(api.Code{}); len(l) != 0 || err != api.OK {
		t.Errorf("Room of nothing: %v, %d", l, err)
	}
}

// without leaves out one procedure, and numbers the others anew; what names it names nothing, as deep.
func without(c api.Code, p int) api.Code {
	less := func(n int) int {
		if n > p {
			n--
		}
		return n
	}
	shorter := api.Code{Name: c.Name, Data: c.Data}
	proc := 0
	for _, o := range c.Ops {
		if o.Op == api.OEnter {
			proc = o.N
		}
		if proc == p {
			continue
		}
		switch {
		case o.Op == api.OProc && o.N == p:
			o = api.Op{Op: api.ONum}
		case o.Op == api.OProc, o.Op == api.OEnter:
			o.N = less(o.N)
		}
		shorter.Ops = append(shorter.Ops, o)
	}
	for _, e := range c.Globals {
		if e.Proc != p {
			shorter.Globals = append(shorter.Globals, api.Entry{Global: e.Global, Proc: less(e.Proc)})
		}
	}
	return counted(shorter)
}

// P6.7: a procedure that is left out changes no depth of the others.
func TestProceduresAlone(t *testing.T) {
	count := 0
	overCodes(20000, 400, func(m *maker, c api.Code) {
		depths, _ := ocode.Depths(c)
		room, _ := ocode.Room(c)
		for p := 1; p <= c.Procs; p++ {
			from := slices.IndexFunc(c.Ops, func(o api.Op) bool { return o.Op == api.OEnter && o.N == p })
			to := slices.IndexFunc(c.Ops, func(o api.Op) bool { return o.Op == api.OEnter && o.N == p+1 })
			if to < 0 {
				to = len(c.Ops)
			}
			shorter := without(c, p)
			gotDepths, err := ocode.Depths(shorter)
			gotRoom, _ := ocode.Room(shorter)
			if err != api.OK || !slices.Equal(gotDepths, slices.Delete(slices.Clone(depths), from, to)) || !slices.Equal(gotRoom, slices.Delete(slices.Clone(room), p-1, p)) {
				t.Fatalf("%v without %d: depths %v, room %v, error %d", c, p, gotDepths, gotRoom, err)
			}
			count++
		}
	})
	if count < 500 {
		t.Errorf("only %d procedures", count)
	}
}
