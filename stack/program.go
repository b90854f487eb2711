package stack

import (
	"bluebell/api"
	"bluebell/ocode"
	"bluebell/word"
)

const (
	startGlobal = 1 // of the procedure that a run calls
	procWord    = api.MemSize
	linkSize    = 2 // words below a frame's locals
)

// program is code that is ready to run by words of a form.
type program struct {
	form  api.Form
	ops   []api.Op // with the words, addresses and places that their numbers mean
	homes []int    // the procedures of the instructions
	procs []procedure
}

// procedure is one of the section: the place of its OEnter, and how many words its frame may use.
type procedure struct {
	place, room int
}

// newProgram makes code ready, and tells its memory at first; its errors are those of ocode.Layout.
func newProgram(c api.Code, f api.Form) (*program, *memory, api.Errno) {
	addresses, _, err := ocode.Layout(c, f)
	if err != api.OK {
		return nil, nil, err
	}
	rooms, _ := ocode.Room(c) // no error: Layout has found none
	p := &program{form: f}
	labels := make([]int, c.Labels+1) // their places
	for i, o := range c.Ops {
		switch o.Op {
		case api.OEnter:
			p.procs = append(p.procs, procedure{i, rooms[o.N-1]})
		case api.OLabel:
			labels[o.N] = i
		}
		p.homes = append(p.homes, len(p.procs))
	}
	for _, o := range c.Ops {
		p.ops = append(p.ops, p.ready(o, labels, addresses))
	}
	return p, p.firstMemory(c, addresses), api.OK
}

// ready returns an instruction with places instead of labels. What pushes a word that is known already becomes an ONum of it, and a static cell becomes a word at an address, as a global is.
func (p *program) ready(o api.Op, labels, addresses []int) api.Op {
	switch o.Op {
	case api.ONum:
		o.N = p.norm(o.N)
	case api.OAddrG:
		o.Op = api.ONum
	case api.OProc:
		o.Op, o.N = api.ONum, procWord+o.N
	case api.OStatic:
		o.Op, o.N = api.OGlobal, addresses[o.N]
	case api.OPutS:
		o.Op, o.N = api.OPutG, addresses[o.N]
	case api.OAddrS:
		o.Op, o.N = api.ONum, addresses[o.N]
	case api.OJump, api.OTrue, api.OFalse, api.OResult, api.OSwitch:
		o.N = labels[o.N]
	case api.OCase:
		o.N, o.M = p.norm(o.N), labels[o.M]
	}
	return o
}

func (p *program) norm(w int) int {
	w, _ = word.Norm(w, p.form.Bits) // no error: the form is valid
	return w
}

func (p *program) firstMemory(c api.Code, addresses []int) *memory {
	m := new(memory)
	for i, d := range c.Data {
		words, _ := ocode.Words(d, p.form) // no error: Layout has found none
		copy(m[addresses[i]:], words)
	}
	for i := range givenProcedures() {
		m[firstGiven+i] = givenWord + firstGiven + i
	}
	for _, e := range c.Globals {
		m[e.Global] = procWord + e.Proc
	}
	return m
}
