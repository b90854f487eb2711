package stack_test

import (
	"slices"

	"bluebell/api"
	"bluebell/ocode"
	"bluebell/stack"
	"bluebell/word"
)

// reference runs code as the chapter says it, instruction by instruction, without making anything ready.
type reference struct {
	c            api.Code
	f            api.Form
	input        string
	areas, rooms []int
	procs        []int // of the places
	memory       []int
	p, d, place  int
	kept, heap   int
	cos          map[int]*referenceCo // by their addresses; the main program is at 0
	co           int                  // the running one
	result       api.Result
	began        []int
	called       []bool
}

type referenceCo struct {
	f, size     int
	begun, busy bool
	parent      int
	result      int // the address where a word goes that callco or cowait gives
	at          stack.State
}

func newReference(c api.Code, f api.Form, input string) *reference {
	r := &reference{c: c, f: f, input: input, memory: make([]int, api.MemSize), p: api.StackBase, heap: api.HeapBase, began: make([]int, len(c.Ops)), called: make([]bool, c.Procs)}
	r.areas, _, _ = ocode.Layout(c, f)
	r.rooms, _ = ocode.Room(c)
	r.cos = map[int]*referenceCo{0: {}}
	for g := 2; g <= 11; g++ {
		r.memory[g] = 32500 + g
	}
	for _, e := range c.Globals {
		r.memory[e.Global] = 32000 + e.Proc
	}
	for i, d := range c.Data {
		words, _ := ocode.Words(d, f)
		copy(r.memory[r.areas[i]:], words)
	}
	proc := 0
	for _, o := range c.Ops {
		if o.Op == api.OEnter {
			proc = o.N
		}
		r.procs = append(r.procs, proc)
	}
	r.result.End = api.Fuel
	return r
}

func (r *reference) get(a int) int {
	if a < 0 || a > 31999 {
		panic(api.ErrAddress)
	}
	return r.memory[a]
}

func (r *reference) set(a, w int) {
	r.get(a)
	r.memory[a], _ = word.Norm(w, r.f.Bits)
}

func (r *reference) push(w int) {
	r.set(r.p+r.d, w)
	r.d++
}

func (r *reference) pop() int {
	r.d--
	return r.get(r.p + r.d)
}

// label returns the place of a label.
func (r *reference) label(n int) int {
	return slices.Index(r.c.Ops, api.Op{Op: api.OLabel, N: n})
}

// op returns an instruction; there is none before the first one.
func (r *reference) op(place int) api.Op {
	if place < 0 || place >= len(r.c.Ops) {
		return api.Op{}
	}
	return r.c.Ops[place]
}

func (r *reference) step() {
	defer func() {
		if x := recover(); x != nil {
			r.result.End, r.result.Why = api.Fault, x.(api.Errno)
		}
	}()
	r.result.Steps++
	if r.result.Steps == 1 {
		r.enter(r.memory[1], api.StackBase, api.StackBase, -1)
		return
	}
	for r.op(r.place).Op == api.OLabel {
		r.place++
	}
	r.began[r.place]++
	o := r.op(r.place)
	r.place++
	r.do(o)
}

func (r *reference) do(o api.Op) {
	switch o.Op {
	case api.ONum:
		r.push(o.N)
	case api.OLocal:
		r.push(r.get(r.p + o.N))
	case api.OPutL:
		r.set(r.p+o.N, r.pop())
	case api.OAddrL:
		r.push(r.p + o.N)
	case api.OGlobal:
		r.push(r.memory[o.N])
	case api.OPutG:
		r.memory[o.N] = r.pop()
	case api.OAddrG:
		r.push(o.N)
	case api.OStatic:
		r.push(r.memory[r.areas[o.N]])
	case api.OPutS:
		r.memory[r.areas[o.N]] = r.pop()
	case api.OAddrS:
		r.push(r.areas[o.N])
	case api.OProc:
		r.push(32000 + o.N)
	case api.OLoad:
		r.push(r.get(r.pop()))
	case api.OStore:
		a, w := r.pop(), r.pop()
		r.set(a, w)
	case api.OGetB:
		i, a := r.pop(), r.pop()
		a, in := r.byteOf(a, i)
		r.push(r.get(a) >> in & 255)
	case api.OPutB:
		i, a, w := r.pop(), r.pop(), r.pop()
		a, in := r.byteOf(a, i)
		r.set(a, r.get(a)&^(255<<in)|(w&255)<<in)
	case api.OBin, api.OUn:
		b := 0
		if o.Op == api.OBin {
			b = r.pop()
		}
		w, err := word.Apply(o.N, r.pop(), b, r.f.Bits)
		if err != api.OK {
			panic(err)
		}
		r.push(w)
	default:
		r.control(o)
	}
}

// byteOf returns the address of a byte's word, and by how much the byte is shifted there.
func (r *reference) byteOf(a, i int) (int, int) {
	n := r.f.Bits / 8
	for ; i < 0; i += n {
		a--
	}
	for ; i >= n; i -= n {
		a++
	}
	if r.f.Big {
		i = n - 1 - i
	}
	return a, 8 * i
}

func (r *reference) control(o api.Op) {
	switch o.Op {
	case api.OStack:
		r.d = o.N
	case api.OJump:
		r.place = r.label(o.N)
	case api.OTrue, api.OFalse:
		if (r.pop() != 0) == (o.Op == api.OTrue) {
			r.place = r.label(o.N)
		}
	case api.OResult:
		r.kept, r.place = r.pop(), r.label(o.N)
	case api.OTake:
		r.d = o.N
		r.push(r.kept)
	case api.OSwitch:
		w, l := r.pop(), o.N
		for i := o.M - 1; i >= 0; i-- {
			k := r.op(r.place + i)
			if n, _ := word.Norm(k.N, r.f.Bits); n == w {
				l = k.M
			}
		}
		r.place = r.label(l)
	case api.OEnter:
		r.d = 2 + o.M
	case api.OReturn:
		r.back(r.pop())
	case api.OBack:
		r.back(0)
	case api.OCall:
		f := r.pop()
		if f > 32501 && f <= 32511 {
			r.given(f-32500, o.N)
			return
		}
		r.enter(f, r.p+o.N, r.p, r.place)
	}
}

func (r *reference) enter(f, p, link, place int) {
	if f <= 32000 || f > 32000+r.c.Procs {
		panic(api.ErrCall)
	}
	end := 15999
	if r.co != 0 {
		end = r.co + r.cos[r.co].size
	}
	if p+r.rooms[f-32001]-1 > end {
		panic(api.ErrRoom)
	}
	r.set(p, link)
	r.set(p+1, place)
	r.called[f-32001] = true
	r.p, r.d = p, 0
	r.place = slices.IndexFunc(r.c.Ops, func(o api.Op) bool { return o.Op == api.OEnter && o.N == f-32000 })
}

func (r *reference) bottom(co int) int {
	if co == 0 {
		return api.StackBase
	}
	return co
}

// linked tells a frame's link: whether it is the first one of a coroutine's stack, and whether it is that of a call; n is the call's local.
func (r *reference) linked(frame, co int) (first, ok bool, n int) {
	p, place := r.memory[frame], r.memory[frame+1]
	if place == -1 {
		return frame == r.bottom(co) && p == frame, false, 0
	}
	call := r.op(place - 1)
	return false, call.Op == api.OCall && p >= 8000 && p < 32000 && p+call.N == frame, call.N
}

func (r *reference) back(w int) {
	old := r.p
	first, ok, n := r.linked(old, r.co)
	switch {
	case first && r.co == 0:
		r.set(old, w)
		r.result.End = api.Done
	case first:
		r.cos[r.co].begun = false
		r.wait(w)
	case !ok:
		panic(api.ErrCall)
	default:
		r.p, r.place, r.d = r.memory[old], r.memory[old+1], n+1
		r.set(old, w)
	}
}

// wait goes from the running coroutine to its parent.
func (r *reference) wait(w int) {
	c := r.cos[r.co]
	c.busy = false
	r.goTo(c.parent, w)
}

// goTo goes on with a coroutine that gets a word.
func (r *reference) goTo(co, w int) {
	c := r.cos[co]
	r.co = co
	r.p, r.d, r.place = c.at.Frame, c.at.Depth, c.at.Place
	r.set(c.result, w)
}

func (r *reference) given(g, n int) {
	r.d = n + 1
	arg := func(i int) int { return r.get(r.p + n + 2 + i) }
	give := func(w int) { r.set(r.p+n, w) }
	switch g {
	case 2:
		if r.input == "" {
			give(-1)
		} else {
			give(int(r.input[0]))
			r.input = r.input[1:]
		}
	case 3:
		r.result.Out += string([]byte{byte(arg(0))})
		give(0)
	case 4:
		r.result.End, r.result.Code = api.Stopped, arg(0)
	case 5:
		give(r.take(arg(0)))
	case 6:
		give(0)
	case 7:
		a, b, c := arg(0), arg(1), arg(2)
		if c == 0 {
			panic(api.ErrZero)
		}
		give(a * b / c)
	default:
		r.coroutine(g, n, arg, give)
	}
}

func (r *reference) take(n int) int {
	if n < 0 || r.heap+n+1 > api.MemSize {
		return 0
	}
	a := r.heap
	r.heap += n + 1
	for i := a; i < r.heap; i++ {
		r.memory[i] = 0
	}
	return a
}

func (r *reference) coroutine(g, n int, arg func(int) int, give func(int)) {
	own := r.cos[r.co]
	own.result = r.p + n
	own.at = stack.State{Place: r.place, Frame: r.p, Depth: r.d}
	if g == 8 {
		f, size := arg(0), arg(1)
		a := r.take(size)
		if a != 0 {
			r.cos[a] = &referenceCo{f: f, size: size}
		}
		give(a)
		return
	}
	if g == 10 {
		if r.co == 0 {
			panic(api.ErrState)
		}
		r.wait(arg(0))
		return
	}
	v := 0
	if g == 9 {
		v = arg(1)
	}
	at := arg(0)
	c := r.cos[at]
	if c == nil || at == 0 {
		panic(api.ErrCall)
	}
	if c.busy || r.co == at {
		panic(api.ErrState)
	}
	if g == 11 {
		delete(r.cos, at)
		give(0)
		return
	}
	c.busy, c.parent = true, r.co
	if c.begun {
		r.goTo(at, v)
		return
	}
	r.co, c.begun = at, true
	r.enter(c.f, at, at, -1)
	r.set(at+2, v)
}

// walk returns the state and those of the callers.
func (r *reference) walk() []stack.State {
	if r.result.End != api.Fuel || r.result.Steps == 0 {
		return nil
	}
	co := r.co
	at := stack.State{Place: r.place, Frame: r.p, Depth: r.d}
	var l []stack.State
	for {
		at.Proc, at.Co = r.procs[at.Place], co
		l = append(l, at)
		first, ok, n := r.linked(at.Frame, co)
		switch {
		case first && co == 0 || !first && !ok:
			return l
		case first:
			co = r.cos[co].parent
			at = r.cos[co].at
		default:
			at = stack.State{Place: r.memory[at.Frame+1], Frame: r.memory[at.Frame], Depth: n + 1}
		}
	}
}

func (r *reference) state() stack.State {
	switch {
	case r.result.End != api.Fuel:
		return stack.State{Ended: true}
	case r.result.Steps == 0:
		return stack.State{Frame: api.StackBase}
	}
	return stack.State{Place: r.place, Frame: r.p, Depth: r.d, Proc: r.procs[r.place], Co: r.co}
}
