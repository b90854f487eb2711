package mean

import (
	"slices"

	"bluebell/api"
	"bluebell/parse"
	"bluebell/scope"
	"bluebell/word"
)

// expression computes a value in a frame.
type expression func(f *frame) value

// builder makes of trees what computes and runs them, so that no name is looked for in a run.
type builder struct {
	form      api.Form
	manifests map[string]scope.Top
	variables map[string]*object // statics, and globals that are no procedures
	procs     map[string]*procedure
	narrow    bool // the constants of all statics are

	// Of the procedure that is built:
	known  []string // parameters and locals that are known at the place, by their slots; the last one of a name counts
	slots  int      // the most of them so far
	words  int      // that its locals have
	labels []label  // of the blocks around the place; the last one of a name counts
	next   signal   // the next label's
}

// label is where a goto can lead: what it tells the blocks around it.
type label struct {
	name string
	jump signal
}

// The words of a call.
const (
	wordsOfCall  = 2
	wordsOfVec   = 2 // beside its size
	wordsOfFor   = 2
	wordsOfLevel = 10
)

func newBuilder(f api.Form) *builder {
	return &builder{form: f, manifests: map[string]scope.Top{}, variables: map[string]*object{}, procs: givenProcedures(), narrow: true}
}

// section builds all of a section that scope has passed.
func (b *builder) section(s api.Section) {
	tops, _ := scope.Tops(s)
	for _, t := range tops {
		switch t.Kind {
		case scope.Manifest:
			b.manifests[t.Name] = t
		case scope.Global:
			b.variables[t.Name] = newObject(1)
		}
	}
	for _, d := range s.Decls {
		switch d.Op {
		case api.DStatic:
			b.statics(d.L)
		case api.DProc:
			b.procs[d.S] = &procedure{name: d.S, params: len(d.L) - 1}
		}
	}
	for _, d := range s.Decls {
		if d.Op == api.DProc {
			b.procedure(b.procs[d.S], d)
		}
	}
}

func (b *builder) statics(consts []api.Node) {
	for _, c := range consts {
		v := b.constant(c.L[0])
		b.variables[c.S] = newCell(b.number(v))
		b.narrow = b.narrow && isNarrow(v)
	}
}

// procedure builds a procedure.
func (b *builder) procedure(p *procedure, d api.Node) {
	b.known, b.slots, b.words, b.labels, b.next = nil, 0, 0, nil, firstJump
	b.declare(d.L[:p.params]...)
	body := d.L[p.params]
	if d.N == 0 {
		p.body = b.value(body)
	} else {
		run := b.command(body)
		p.body = func(f *frame) value {
			run(f)
			return number(0)
		}
	}
	p.slots = b.slots
	p.words = wordsOfCall + p.params + b.words + wordsOfLevel*parse.Levels(d)
}

// declare makes the names of nodes known, and returns the slot of the first one; the others follow.
func (b *builder) declare(names ...api.Node) int {
	first := len(b.known)
	for _, n := range names {
		b.known = append(b.known, n.S)
	}
	b.slots = max(b.slots, len(b.known))
	return first
}

// forget makes the names unknown that were declared since as many as count were known.
func (b *builder) forget(count int) {
	b.known = b.known[:count]
}

// slot returns the slot of the local or parameter that a name means, if it means one.
func (b *builder) slot(name string) (int, bool) {
	for slot, known := range slices.Backward(b.known) {
		if known == name {
			return slot, true
		}
	}
	return 0, false
}

// variable returns how the object of a variable is found.
func (b *builder) variable(name string) func(f *frame) *object {
	if slot, ok := b.slot(name); ok {
		return func(f *frame) *object { return f.locals[slot] }
	}
	o := b.variables[name]
	return func(*frame) *object { return o }
}

// jump returns what a goto to a label tells.
func (b *builder) jump(name string) signal {
	for _, l := range slices.Backward(b.labels) {
		if l.name == name {
			return l.jump
		}
	}
	return goOn // not so: scope has found the label
}

// constant returns the value of a constant expression that scope has passed, by words of 32 bits.
func (b *builder) constant(n api.Node) int {
	var used []scope.Top
	for _, name := range parse.Names(n) {
		if t, ok := b.manifests[name]; ok {
			used = append(used, t)
		}
	}
	v, _ := scope.Eval(n, used)
	return v
}

// number returns a constant as a word.
func (b *builder) number(v int) value {
	w, _ := word.Norm(v, b.form.Bits)
	return number(w)
}
