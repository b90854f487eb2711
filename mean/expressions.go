package mean

import (
	"bluebell/api"
	"bluebell/scope"
)

// value builds an expression that is computed as a value, which is a step.
func (b *builder) value(n api.Node) expression {
	compute := b.computing(n)
	return func(f *frame) value {
		f.step()
		return compute(f)
	}
}

func (b *builder) values(l []api.Node) []expression {
	var list []expression
	for _, n := range l {
		list = append(list, b.value(n))
	}
	return list
}

// computing builds what follows when the step of an expression's node has begun.
func (b *builder) computing(n api.Node) expression {
	switch n.Op {
	case api.ENum, api.ETrue, api.EFalse, api.ESlct:
		return b.fixed(b.constant(n))
	case api.EName:
		return b.name(n.S)
	case api.EStr:
		return at(newText(n.S, b.form))
	case api.ETable:
		return b.table(n)
	case api.ECall:
		return b.call(n)
	case api.ESub, api.ELoad:
		place := b.place(n)
		return func(f *frame) value { return load(place(f)) }
	case api.EAddr:
		return b.place(n.L[0])
	case api.EByte:
		base, index := b.value(n.L[0]), b.value(n.L[1])
		return func(f *frame) value { return f.getByte(base(f), index(f)) }
	case api.EBin:
		first, second := b.value(n.L[0]), b.value(n.L[1])
		return func(f *frame) value { return f.apply(n.N, first(f), second(f)) }
	case api.EUn:
		only := b.value(n.L[0])
		return func(f *frame) value { return f.compute(n.N, numberOf(only(f)), 0) }
	case api.ECond:
		return b.choice(n)
	case api.EValof:
		return b.valof(n)
	case api.ESel:
		s, whole := b.selector(n.L[0]), b.value(n.L[1])
		return func(f *frame) value { return f.getBits(s, whole(f)) }
	}
	return func(*frame) value { return nil } // EAny
}

// fixed builds a constant.
func (b *builder) fixed(v int) expression {
	w, narrow := b.number(v), isNarrow(v)
	return func(f *frame) value {
		f.require(narrow)
		return w
	}
}

// at builds the address of an object that is always the same one.
func at(o *object) expression {
	var a value = address{in: o}
	return func(*frame) value { return a }
}

func (b *builder) name(s string) expression {
	_, isLocal := b.slot(s)
	m, isManifest := b.manifests[s]
	p, isProc := b.procs[s]
	switch {
	case !isLocal && isManifest:
		return b.fixed(m.N)
	case !isLocal && isProc: // also if it is a global
		return func(*frame) value { return p }
	}
	object := b.variable(s)
	return func(f *frame) value { return object(f).wordAt(0) }
}

func (b *builder) table(n api.Node) expression {
	o := newObject(len(n.L))
	narrow := true
	for i, part := range n.L {
		v := b.constant(part)
		o.setWord(i, b.number(v))
		narrow = narrow && isNarrow(v)
	}
	address := at(o)
	return func(f *frame) value {
		f.require(narrow)
		return address(f)
	}
}

func (b *builder) call(n api.Node) expression {
	called, args := b.value(n.L[0]), b.values(n.L[1:])
	return func(f *frame) value {
		list := make([]value, len(args))
		for i, arg := range args {
			list[i] = arg(f)
		}
		return f.call(called(f), list)
	}
}

// place builds the address of what has one: a variable, an ESub or ELoad; the node of these is no step.
func (b *builder) place(n api.Node) expression {
	switch n.Op {
	case api.ESub:
		first, second := b.value(n.L[0]), b.value(n.L[1])
		return func(f *frame) value { return addressOf(f.apply(api.Add, first(f), second(f))) }
	case api.ELoad:
		part := b.value(n.L[0])
		return func(f *frame) value { return addressOf(part(f)) }
	}
	object := b.variable(n.S)
	return func(f *frame) value { return address{in: object(f)} }
}

func (b *builder) choice(n api.Node) expression {
	condition, yes, no := b.value(n.L[0]), b.value(n.L[1]), b.value(n.L[2])
	return func(f *frame) value {
		if f.holds(condition(f)) {
			return yes(f)
		}
		return no(f)
	}
}

func (b *builder) valof(n api.Node) expression {
	run := b.command(n.L[0])
	return func(f *frame) value {
		if run(f) == leaveValof {
			return f.result
		}
		return number(0)
	}
}

func (b *builder) selector(n api.Node) selector {
	size, shift, offset, _ := scope.Selector(b.constant(n))
	return selector{size, shift, offset}
}
