package stack

import (
	"bluebell/api"
	"bluebell/word"
)

const (
	firstGiven = 2 // the global of the first given procedure
	givenWord  = api.MemSize + 500
)

// arguments are those of a given procedure; none has more.
type arguments [3]int

// given is a given procedure; what it does gives a result to the call that goes on then.
type given struct {
	params int
	do     func(r *run, a arguments)
}

// givenProcedures returns the given procedures in the order of their globals.
func givenProcedures() []given {
	return []given{
		{0, readByte},
		{1, writeByte},
		{1, stop},
		{1, newVector},
		{1, freeVector},
		{3, mulDiv},
		{2, createCoroutine},
		{2, callCoroutine},
		{1, waitInCoroutine},
		{1, deleteCoroutine},
	}
}

// callGiven calls a given procedure with the locals behind the link that a frame at the local n would have.
func (r *run) callGiven(g given, n int) {
	var a arguments
	for i := range g.params {
		a[i] = r.memory.word(r.frame + n + linkSize + i)
	}
	r.depth = n + 1
	g.do(r, a)
}

func readByte(r *run, _ arguments) {
	if r.input == "" {
		r.give(-1)
		return
	}
	b := r.input[0]
	r.input = r.input[1:]
	r.give(int(b))
}

func writeByte(r *run, a arguments) {
	if r.output.Len() == api.MaxOutput {
		panic(fault(api.ErrLimit))
	}
	r.output.WriteByte(byte(a[0]))
	r.give(0)
}

func stop(r *run, a arguments) {
	r.outcome.End, r.outcome.Code = api.Stopped, a[0]
}

func newVector(r *run, a arguments) {
	r.give(r.allocate(a[0]))
}

// allocate takes words from 0 to n from the heap, and returns their address, or 0 if there are none.
func (r *run) allocate(n int) int {
	if n < 0 || n >= api.MemSize-r.heap {
		return 0
	}
	address := r.heap
	r.heap += n + 1
	clear(r.memory[address:r.heap])
	return address
}

// freeVector does nothing: what was taken does not come back.
func freeVector(r *run, _ arguments) {
	r.give(0)
}

func mulDiv(r *run, a arguments) {
	q, _, err := word.MulDiv(a[0], a[1], a[2], r.form.Bits)
	if err != api.OK {
		panic(fault(err))
	}
	r.give(q)
}
