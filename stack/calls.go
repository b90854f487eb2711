package stack

import (
	"bluebell/api"
	"bluebell/word"
)

// outside is the place to which the first procedure on a stack returns.
const outside = -1

// context is where a procedure goes on: its frame, the depth, and the place of the next instruction.
type context struct {
	frame, depth, place int
}

// call calls the word on top; its frame begins at the local n.
func (r *run) call(n int) {
	called := r.pop()
	if i := called - givenWord - firstGiven; i >= 0 && i < len(r.given) {
		r.callGiven(r.given[i], n)
		return
	}
	p := r.procedure(called)
	frame := r.frame + n
	r.wantRoom(p, frame)
	r.enter(p, frame, r.frame, r.place)
}

// procedure returns the number, from 0 on, of the procedure of the section that a word is.
func (r *run) procedure(w int) int {
	p := w - procWord - 1
	if p < 0 || p >= len(r.procs) {
		panic(fault(api.ErrCall))
	}
	return p
}

// wantRoom looks whether a procedure's frame ends within the running stack.
func (r *run) wantRoom(p, frame int) {
	if frame+r.procs[p].room-1 > r.last {
		panic(fault(api.ErrRoom))
	}
}

// enter goes to a procedure's beginning, with a link to a caller's frame and place.
func (r *run) enter(p, frame, caller, place int) {
	r.memory.put(frame, caller)
	r.memory.put(frame+1, r.norm(place))
	r.context = context{frame: frame, place: r.procs[p].place}
	if r.called != nil {
		r.called[p] = true
	}
}

// give makes a word the result of the call that goes on: it is the uppermost local behind it.
func (r *run) give(w int) {
	r.memory.put(r.frame+r.depth-1, w)
}

// back returns from a procedure with a word.
func (r *run) back(w int) {
	if r.isFirst(r.frame, r.coroutine) {
		r.leave(w)
		return
	}
	caller, ok := r.caller(r.frame)
	if !ok {
		panic(fault(api.ErrCall))
	}
	r.context = caller
	r.give(w)
}

// isFirst reports whether a frame of a stack is its first one, with its link as it was written.
func (r *run) isFirst(frame int, c *coroutine) bool {
	return frame == c.first && r.memory.word(frame) == frame && r.memory.word(frame+1) == outside
}

// caller returns where a return from a frame that is no first one goes on, and whether its link is one of a call.
func (r *run) caller(frame int) (context, bool) {
	up := r.memory.word(frame)
	// The link has the place as a word, which has another sign if words are short and the code is long.
	place, _ := word.Unsigned(r.memory.word(frame+1), r.form.Bits)
	if place < 1 || place > len(r.ops) || r.ops[place-1].Op != api.OCall {
		return context{}, false
	}
	n := r.ops[place-1].N
	if up < api.StackBase || up+n != frame { // a frame below this one is in memory
		return context{}, false
	}
	return context{frame: up, depth: n + 1, place: place}, true
}
