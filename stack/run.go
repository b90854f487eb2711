package stack

import (
	"strings"

	"bluebell/api"
	"bluebell/word"
)

// run is a run of a program, as far as it has come. What it embeds as coroutine is the running one.
type run struct {
	*program
	*coroutine
	memory     *memory
	heap       int                // the address of the first word that is left
	coroutines map[int]*coroutine // by their addresses
	given      []given            // procedures, from the global firstGiven on
	kept       int                // the word of an OResult, for the OTake
	input      string             // what is left of it
	output     strings.Builder
	outcome    api.Result // so far, but for Out; it goes on as long as End is Fuel

	began  []int  // for Profile alone
	called []bool // for Cover alone
}

// fault is what a run panics with when something is wrong.
type fault api.Errno

func newRun(c api.Code, f api.Form, input string) (*run, api.Errno) {
	p, m, err := newProgram(c, f)
	if err != api.OK {
		return nil, err
	}
	if len(input) > api.MaxInput {
		return nil, api.ErrLimit
	}
	return &run{
		program:    p,
		coroutine:  newMain(m[startGlobal]),
		memory:     m,
		heap:       api.HeapBase,
		coroutines: map[int]*coroutine{},
		given:      givenProcedures(),
		input:      input,
		outcome:    api.Result{End: api.Fuel},
	}, api.OK
}

func newFueledRun(c api.Code, f api.Form, input string, fuel int) (*run, api.Errno) {
	r, err := newRun(c, f, input)
	if err != api.OK {
		return nil, err
	}
	if fuel < 0 || fuel > api.MaxSteps {
		return nil, api.ErrRange
	}
	return r, api.OK
}

func (r *run) ended() bool {
	return r.outcome.End != api.Fuel
}

func (r *run) result() api.Result {
	result := r.outcome
	result.Out = r.output.String()
	return result
}

// advance does up to n steps.
func (r *run) advance(n int) {
	defer func() {
		switch x := recover().(type) {
		case nil:
		case fault:
			r.outcome.End, r.outcome.Why = api.Fault, api.Errno(x)
		default:
			panic(x)
		}
	}()
	for ; n > 0 && !r.ended(); n-- {
		r.step()
	}
}

// step calls start, if it is the first one, or does the next instruction.
func (r *run) step() {
	r.outcome.Steps++
	if !r.begun {
		r.begin(0)
		return
	}
	for r.ops[r.place].Op == api.OLabel {
		r.place++
	}
	if r.began != nil {
		r.began[r.place]++
	}
	o := r.ops[r.place]
	r.place++
	r.do(o)
}

func (r *run) push(w int) {
	r.memory.put(r.frame+r.depth, w)
	r.depth++
}

func (r *run) pop() int {
	r.depth--
	return r.memory.word(r.frame + r.depth)
}

// do does an instruction; the place is the one behind it.
func (r *run) do(o api.Op) {
	switch o.Op {
	case api.ONum:
		r.push(o.N)
	case api.OLocal:
		r.push(r.memory.word(r.frame + o.N))
	case api.OPutL:
		r.memory.put(r.frame+o.N, r.pop())
	case api.OAddrL:
		r.push(r.norm(r.frame + o.N))
	case api.OGlobal:
		r.push(r.memory.word(o.N))
	case api.OPutG:
		r.memory.put(o.N, r.pop())
	case api.OLoad:
		r.push(r.memory.word(r.pop()))
	case api.OStore:
		a := r.pop()
		r.memory.put(a, r.pop())
	case api.OGetB:
		i := r.pop()
		r.push(r.memory.byteAt(r.pop(), i, r.form))
	case api.OPutB:
		i := r.pop()
		a := r.pop()
		r.memory.putByte(a, i, r.pop(), r.form)
	case api.OBin:
		b := r.pop()
		r.push(r.apply(o.N, r.pop(), b))
	case api.OUn:
		r.push(r.apply(o.N, r.pop(), 0))
	default:
		r.lead(o)
	}
}

// apply computes with words; a division by 0 is a fault.
func (r *run) apply(op, a, b int) int {
	w, err := word.Apply(op, a, b, r.form.Bits)
	if err != api.OK {
		panic(fault(err))
	}
	return w
}

// lead does an instruction that sets the place or the depth.
func (r *run) lead(o api.Op) {
	switch o.Op {
	case api.OStack:
		r.depth = o.N
	case api.OJump:
		r.place = o.N
	case api.OTrue:
		if r.pop() != 0 {
			r.place = o.N
		}
	case api.OFalse:
		if r.pop() == 0 {
			r.place = o.N
		}
	case api.OSwitch:
		r.choose(o)
	case api.OResult:
		r.kept = r.pop()
		r.place = o.N
	case api.OTake:
		r.depth = o.N
		r.push(r.kept)
	case api.OCall:
		r.call(o.N)
	case api.OEnter:
		r.depth = linkSize + o.M
	case api.OReturn:
		r.back(r.pop())
	case api.OBack:
		r.back(0)
	}
}

// choose leads to the case of a switch that has the word popped.
func (r *run) choose(o api.Op) {
	w := r.pop()
	cases := r.ops[r.place : r.place+o.M]
	r.place = o.N
	for _, c := range cases {
		if c.N == w {
			r.place = c.M
			return
		}
	}
}
