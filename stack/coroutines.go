package stack

import "bluebell/api"

// coroutine is one that createco made, or the main program, which is like one that runs from the beginning. Its context is where it goes on: the machine's own while it is running.
type coroutine struct {
	context
	first, last int        // words of its stack
	proc        int        // the word that is called at its beginning
	begun       bool       // that call goes on
	parent      *coroutine // that called it; none at rest, and none of the main program
}

func newMain(start int) *coroutine {
	return newCoroutine(start, api.StackBase, api.HeapBase-1)
}

func newCoroutine(proc, first, last int) *coroutine {
	return &coroutine{context: context{frame: first}, proc: proc, first: first, last: last}
}

// begin calls the running coroutine's procedure with an argument.
func (r *run) begin(v int) {
	p := r.procedure(r.proc)
	r.wantRoom(p, r.first)
	r.memory.put(r.first+linkSize, v) // though the procedure may have no parameter
	r.enter(p, r.first, r.first, outside)
	r.begun = true
}

// leave ends the running coroutine's call of its procedure, which returned with a word; that of the main program is the end.
func (r *run) leave(w int) {
	r.begun = false
	if r.parent != nil {
		r.wait(w)
		return
	}
	r.memory.put(r.frame, w) // where a call with the frame at the local 0 has its result
	r.outcome.End = api.Done
}

// wait lets the running coroutine rest, and gives its parent a word.
func (r *run) wait(v int) {
	resting := r.coroutine
	r.coroutine = resting.parent
	resting.parent = nil
	r.give(v)
}

// resting returns the coroutine at an address, which has to be at rest.
func (r *run) resting(address int) *coroutine {
	c := r.coroutines[address]
	if c == nil {
		panic(fault(api.ErrCall))
	}
	if c.parent != nil {
		panic(fault(api.ErrState))
	}
	return c
}

func createCoroutine(r *run, a arguments) {
	address := r.allocate(a[1])
	if address != 0 {
		r.coroutines[address] = newCoroutine(a[0], address, address+a[1])
	}
	r.give(address)
}

func callCoroutine(r *run, a arguments) {
	c := r.resting(a[0])
	c.parent = r.coroutine
	r.coroutine = c
	if c.begun {
		r.give(a[1])
	} else {
		r.begin(a[1])
	}
}

func waitInCoroutine(r *run, a arguments) {
	if r.parent == nil {
		panic(fault(api.ErrState))
	}
	r.wait(a[0])
}

func deleteCoroutine(r *run, a arguments) {
	r.resting(a[0])
	delete(r.coroutines, a[0])
	r.give(0)
}
