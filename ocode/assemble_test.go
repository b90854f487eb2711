package ocode_test

import (
	"slices"
	"strconv"
	"strings"
	"testing"

	"bluebell/api"
	"bluebell/ocode"
)

// The names of instructions and operators, in the order of their numbers from 1 on.
const (
	opNames       = "num local putl addrl global putg addrg static puts addrs proc load store getb putb bin un stack label jump true false call enter return back result take switch case"
	operatorNames = "mul div rem add sub shl shr and or xor eqv eq ne lt le gt ge neg not"
)

// numbered returns the number of a name in a list of names, or 0.
func numbered(list, name string) int { return slices.Index(strings.Fields(list), name) + 1 }

// instruction makes an instruction of its name and its numbers; those that are left out are 0.
func instruction(s string) api.Op {
	words := append(strings.Fields(s), "0", "0")
	o := api.Op{Op: numbered(opNames, words[0])}
	if o.Op == 0 {
		panic("no instruction: " + s)
	}
	o.N, _ = strconv.Atoi(words[1])
	if n := numbered(operatorNames, words[1]); n != 0 {
		o.N = n
	}
	o.M, _ = strconv.Atoi(words[2])
	return o
}

// assemble makes code of instructions with commas between them; it has three areas.
func assemble(s string) api.Code {
	c := api.Code{Name: "c", Data: []api.Data{{Words: []int{1}}, {IsText: true}, {Words: []int{2, 3}}}}
	for _, line := range strings.Split(s, ",") {
		c.Ops = append(c.Ops, instruction(line))
	}
	return counted(c)
}

// counted sets the numbers of procedures and labels.
func counted(c api.Code) api.Code {
	c.Procs, c.Labels = 0, 0
	for _, o := range c.Ops {
		switch o.Op {
		case api.OEnter:
			c.Procs = max(c.Procs, o.N)
		case api.OLabel:
			c.Labels = max(c.Labels, o.N)
		}
	}
	return c
}

// copied returns code that shares nothing with the other one.
func copied(c api.Code) api.Code {
	c.Ops, c.Globals, c.Data = slices.Clone(c.Ops), slices.Clone(c.Globals), slices.Clone(c.Data)
	for i := range c.Data {
		c.Data[i].Words = slices.Clone(c.Data[i].Words)
	}
	return c
}

// wantCheck checks all codes with one result, of Check and of the functions that return its error.
func wantCheck(t *testing.T, want api.Errno, texts ...string) {
	t.Helper()
	for _, s := range texts {
		wantCheckOf(t, want, s, assemble(s))
	}
}

func wantCheckOf(t *testing.T, want api.Errno, what string, c api.Code) {
	t.Helper()
	old := copied(c)
	if err := ocode.Check(c); err != want {
		t.Errorf("Check(%s): %d; want %d", what, err, want)
	}
	text, err1 := ocode.Text(c)
	depths, err2 := ocode.Depths(c)
	room, err3 := ocode.Room(c)
	jumps, err4 := ocode.Jumps(c)
	renumbered, err5 := ocode.Renumber(c)
	places, end, err6 := ocode.Layout(c, api.Form{Bits: 16})
	if errors := []api.Errno{err1, err2, err3, err4, err5, err6}; !slices.Equal(errors, slices.Repeat([]api.Errno{want}, 6)) {
		t.Errorf("%s: Text, Depths, Room, Jumps, Renumber, Layout: errors %d; want %d", what, errors, want)
	}
	if want != api.OK && (text != "" || len(depths)+len(room)+len(jumps)+len(places)+end != 0 || !ocode.Same(renumbered, api.Code{})) {
		t.Errorf("%s: results together with the error %d", what, want)
	}
	if !ocode.Same(c, old) {
		t.Errorf("%s: the argument was changed", what)
	}
}
