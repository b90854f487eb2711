package mean

import "bluebell/api"

// command runs in a frame, and tells how to go on.
type command func(f *frame) signal

// signal tells how to go on behind a command.
type signal int

const (
	goOn signal = iota
	leaveLoop
	nextTurn
	leaveSwitch
	leaveValof // with the frame's result
	leaveProc
	firstJump // this and all greater ones: a jump to a label of a block around
)

// command builds a command, block or item; to come to it is a step.
func (b *builder) command(n api.Node) command {
	run := b.running(n)
	return func(f *frame) signal {
		f.step()
		return run(f)
	}
}

// running builds what follows when the step of a command's node has begun.
func (b *builder) running(n api.Node) command {
	switch n.Op {
	case api.CAssign:
		return b.assignment(n)
	case api.CCall:
		call := b.value(n.L[0])
		return func(f *frame) signal {
			call(f)
			return goOn
		}
	case api.CIf, api.CUnless, api.CTest:
		return b.test(n)
	case api.CWhile, api.CUntil, api.CRepeat, api.CRepWh, api.CRepUn:
		return b.repetition(n)
	case api.CFor:
		return b.counting(n)
	case api.CSwitch:
		return b.switching(n)
	case api.CResult:
		return b.resulting(n)
	case api.CFinish:
		return func(*frame) signal { panic(ending{end: api.Stopped}) }
	case api.CBlock:
		made := b.block(n)
		return func(f *frame) signal { return made.run(f, 0) }
	case api.CLet:
		return b.let(n)
	case api.CVec:
		return b.vec(n)
	}
	return always(b.signalOf(n))
}

// signalOf returns what a command tells that does nothing else. (What stands behind a label or case is an item of its own.)
func (b *builder) signalOf(n api.Node) signal {
	switch n.Op {
	case api.CBreak:
		return leaveLoop
	case api.CLoop:
		return nextTurn
	case api.CEndcase:
		return leaveSwitch
	case api.CReturn:
		return leaveProc
	case api.CGoto:
		return b.jump(n.S)
	}
	return goOn
}

func always(s signal) command {
	return func(*frame) signal { return s }
}

func (b *builder) resulting(n api.Node) command {
	result := b.value(n.L[0])
	return func(f *frame) signal {
		v := result(f)
		f.result = v
		return leaveValof
	}
}

func (b *builder) assignment(n api.Node) command {
	var pairs []func(f *frame)
	for i := range n.N {
		pairs = append(pairs, b.pair(n.L[i], n.L[n.N+i]))
	}
	return func(f *frame) signal {
		for _, assign := range pairs {
			assign(f)
		}
		return goOn
	}
}

// pair builds the assignment to one left.
func (b *builder) pair(left, right api.Node) func(f *frame) {
	r := b.value(right)
	switch left.Op {
	case api.EName:
		object := b.variable(left.S)
		return func(f *frame) {
			v := r(f)
			object(f).setWord(0, v)
		}
	case api.EByte:
		base, index := b.value(left.L[0]), b.value(left.L[1])
		return func(f *frame) {
			v := r(f)
			f.setByte(base(f), index(f), v)
		}
	case api.ESel:
		s, whole := b.selector(left.L[0]), b.value(left.L[1])
		return func(f *frame) { f.setBits(s, whole(f), r(f)) }
	}
	place := b.place(left)
	return func(f *frame) {
		v := r(f)
		store(place(f), v)
	}
}

func (b *builder) test(n api.Node) command {
	condition := b.value(n.L[0])
	yes, no := always(goOn), always(goOn)
	switch n.Op {
	case api.CIf:
		yes = b.command(n.L[1])
	case api.CUnless:
		no = b.command(n.L[1])
	case api.CTest:
		yes, no = b.command(n.L[1]), b.command(n.L[2])
	}
	return func(f *frame) signal {
		if f.holds(condition(f)) {
			return yes(f)
		}
		return no(f)
	}
}

// loop runs its body as long as it goes on before and behind each turn.
type loop struct {
	before, behind func(f *frame) bool
	body           command
}

func (l loop) run(f *frame) signal {
	for l.before(f) {
		switch s := l.body(f); s {
		case goOn, nextTurn:
		case leaveLoop:
			return goOn
		default:
			return s
		}
		if !l.behind(f) {
			break
		}
	}
	return goOn
}

func yes(*frame) bool {
	return true
}

// repetition builds a loop but CFor.
func (b *builder) repetition(n api.Node) command {
	var l loop
	switch n.Op {
	case api.CWhile, api.CUntil:
		l = loop{before: b.condition(n.L[0], n.Op == api.CWhile), body: b.command(n.L[1]), behind: yes}
	case api.CRepeat:
		l = loop{before: yes, body: b.command(n.L[0]), behind: yes}
	default:
		l = loop{before: yes, body: b.command(n.L[0]), behind: b.condition(n.L[1], n.Op == api.CRepWh)}
	}
	return l.run
}

// condition builds the test whether a condition is as it is wanted.
func (b *builder) condition(n api.Node, wanted bool) func(f *frame) bool {
	condition := b.value(n)
	return func(f *frame) bool { return f.holds(condition(f)) == wanted }
}

// counting builds a CFor.
func (b *builder) counting(n api.Node) command {
	from, to, by := b.value(n.L[0]), b.value(n.L[1]), 1
	if n.N == 1 {
		by = b.constant(n.L[2])
	}
	relation := api.Le
	if by < 0 {
		relation = api.Ge
	}
	slot := b.declare(n)
	b.words += wordsOfFor
	body := b.command(n.L[len(n.L)-1])
	b.forget(slot)
	added, narrow := numberOf(b.number(by)), isNarrow(by)
	return func(f *frame) signal {
		local := newCell(from(f))
		limit := to(f)
		f.require(narrow)
		f.locals[slot] = local
		turns := loop{
			before: func(f *frame) bool {
				return f.compute(relation, numberOf(local.wordAt(0)), numberOf(limit)) != 0
			},
			body: body,
			behind: func(f *frame) bool {
				local.setWord(0, f.compute(api.Add, numberOf(local.wordAt(0)), added))
				return true
			},
		}
		s := turns.run(f)
		f.endLocal(slot)
		return s
	}
}
