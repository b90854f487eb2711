package trans

import "bluebell/api"

const stopGlobal = 4 // the given procedure stop

// command puts a command, or an item of a block, behind the code so far.
func (t *translator) command(n api.Node) {
	switch n.Op {
	case api.CAssign:
		t.assignment(n)
	case api.CCall:
		t.dropping(n.L[0])
	case api.CIf, api.CUnless:
		t.condition(n)
	case api.CTest:
		t.test(n)
	case api.CWhile, api.CUntil, api.CRepeat, api.CRepWh, api.CRepUn:
		t.repetition(n)
	case api.CFor:
		t.counting(n)
	case api.CSwitch:
		t.switching(n)
	case api.CCase, api.CDefault, api.CLabel:
		t.arriving(n)
	case api.CBreak, api.CLoop, api.CEndcase, api.CGoto:
		t.put(api.OJump, t.target(way{op: n.Op, name: n.S}))
	case api.CReturn:
		t.put(api.OBack, 0)
	case api.CResult:
		t.expression(n.L[0])
		t.pop(1, api.OResult, t.target(way{op: n.Op}))
	case api.CFinish:
		t.finish()
	case api.CBlock:
		t.block(n)
	case api.CLet:
		t.let(n)
	case api.CVec:
		t.vec(n)
	}
}

// dropping writes a call whose value nobody wants.
func (t *translator) dropping(call api.Node) {
	d := t.depth
	t.expression(call)
	t.stack(d)
}

// jump writes a jump to a label if the value on top is a condition that holds, or if it does not.
func (t *translator) jump(ifHolds bool, label int) {
	if ifHolds {
		t.pop(1, api.OTrue, label)
	} else {
		t.pop(1, api.OFalse, label)
	}
}

func (t *translator) condition(n api.Node) {
	t.expression(n.L[0])
	end := t.newLabel()
	t.jump(n.Op == api.CUnless, end)
	t.command(n.L[1])
	t.label(end, t.depth)
}

func (t *translator) test(n api.Node) {
	t.expression(n.L[0])
	otherwise, end := t.newLabel(), t.newLabel()
	t.jump(false, otherwise)
	t.command(n.L[1])
	t.put(api.OJump, end)
	t.label(otherwise, t.depth)
	t.command(n.L[2])
	t.label(end, t.depth)
}

// turn writes a loop's command, in which loop leads to a label, and break to another one.
func (t *translator) turn(n api.Node, next, end int) {
	ways := len(t.ways)
	t.lead(way{op: api.CLoop}, next)
	t.lead(way{op: api.CBreak}, end)
	t.command(n)
	t.leave(ways)
}

// repetition writes a loop but CFor.
func (t *translator) repetition(n api.Node) {
	again, end := t.newLabel(), t.newLabel()
	switch n.Op {
	case api.CWhile, api.CUntil:
		t.label(again, t.depth)
		t.expression(n.L[0])
		t.jump(n.Op == api.CUntil, end)
		t.turn(n.L[1], again, end)
		t.put(api.OJump, again)
	case api.CRepeat:
		t.label(again, t.depth)
		t.turn(n.L[0], again, end)
		t.put(api.OJump, again)
	default:
		next := t.newLabel()
		t.label(again, t.depth)
		t.turn(n.L[0], next, end)
		t.label(next, t.depth)
		t.expression(n.L[1])
		t.jump(n.Op == api.CRepWh, again)
	}
	t.label(end, t.depth)
}

// counting writes a CFor, which has its local and, behind it, what this is compared with.
func (t *translator) counting(n api.Node) {
	d, known, by, relation := t.depth, len(t.locals), 1, api.Le
	t.expressions(n.L[:2])
	if n.N == 1 {
		by = t.constant(n.L[2])
	}
	if by < 0 {
		relation = api.Ge
	}
	again, next, compare, end := t.newLabel(), t.newLabel(), t.newLabel(), t.newLabel()
	t.put(api.OJump, compare)
	t.label(again, t.depth)
	t.know(n.S, d)
	t.turn(n.L[len(n.L)-1], next, end)
	t.forget(known)
	t.label(next, t.depth)
	t.push(api.OLocal, d)
	t.binaryWith(api.Add, by)
	t.pop(1, api.OPutL, d)
	t.label(compare, t.depth)
	t.push(api.OLocal, d)
	t.push(api.OLocal, d+1)
	t.binary(relation)
	t.jump(true, again)
	t.label(end, d)
}

// finish writes a call of stop with 0.
func (t *translator) finish() {
	d := t.depth
	t.stack(d + linkSize)
	t.push(api.ONum, 0)
	t.push(api.OGlobal, stopGlobal)
	t.finishCall(d)
	t.stack(d)
}
