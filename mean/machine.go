package mean

import "bluebell/api"

const (
	leastNarrow    = -32768
	greatestNarrow = 32767
	mostTraced     = 1000 // calls that Trace tells
)

// machine is what goes on in a run.
type machine struct {
	form         api.Form
	input        string // what is left of it
	output       []byte
	fuel, steps  int
	narrow       bool // so far
	calls, words int  // of procedures of the section, as long as they go on
	heap         int  // cells that getvec may still give
	trace        []string
}

func newMachine(f api.Form, fuel int) *machine {
	return &machine{form: f, fuel: fuel, heap: api.MemSize - api.HeapBase}
}

// ending is what a machine panics with: how the run ends.
type ending struct {
	end, code int
	why       api.Errno
}

func wild() ending {
	return ending{end: api.Wild}
}

func fault(why api.Errno) ending {
	return ending{end: api.Fault, why: why}
}

// finish does what may end the run, and returns how it ended.
func (m *machine) finish(do func()) (how ending) {
	defer func() {
		switch x := recover().(type) {
		case nil:
		case ending:
			how = x
		default:
			panic(x)
		}
	}()
	do()
	return ending{end: api.Done}
}

// step begins a step.
func (m *machine) step() {
	if m.steps == m.fuel {
		panic(ending{end: api.Fuel})
	}
	m.steps++
}

// require says what has to hold for the run to be narrow.
func (m *machine) require(holds bool) {
	m.narrow = m.narrow && holds
}

func isNarrow(n int) bool {
	return n >= leastNarrow && n <= greatestNarrow
}

// procedure is one of the section, or a given one.
type procedure struct {
	name   string
	params int
	given  func(m *machine, args []value) value // of a given one; the rest is of others
	body   func(f *frame) value
	slots  int // for parameters and locals, as many as are known at one place
	words  int // of a call
}

// frame is a call that goes on: its machine, its parameters and locals by their slots, and what the last CResult gave.
type frame struct {
	*machine
	locals []*object
	result value
}

// endLocal ends a parameter or local, if it is there.
func (f *frame) endLocal(slot int) {
	if o := f.locals[slot]; o != nil {
		o.end()
		f.locals[slot] = nil
	}
}

// call calls a value with arguments.
func (m *machine) call(called value, args []value) value {
	p, ok := called.(*procedure)
	if !ok || len(args) != p.params {
		panic(wild())
	}
	if p.given == nil {
		return m.enter(p, args)
	}
	v := p.given(m, args)
	m.tell(p.name) // only now: a call that ends the run does not begin
	return v
}

// enter calls a procedure of the section.
func (m *machine) enter(p *procedure, args []value) value {
	if m.calls == api.MaxCalls || m.words+p.words > api.MaxFrame {
		panic(fault(api.ErrRoom))
	}
	m.tell(p.name)
	m.calls++
	m.words += p.words
	f := frame{machine: m, locals: make([]*object, p.slots)}
	for i, v := range args {
		f.locals[i] = newCell(v)
	}
	v := p.body(&f)
	for i := range args {
		f.endLocal(i)
	}
	m.calls--
	m.words -= p.words
	return v
}

func (m *machine) tell(name string) {
	if len(m.trace) < mostTraced {
		m.trace = append(m.trace, name)
	}
}
