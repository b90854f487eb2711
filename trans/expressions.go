package trans

import "bluebell/api"

// expression puts the value of an expression on top.
func (t *translator) expression(n api.Node) {
	switch n.Op {
	case api.ENum, api.ETrue, api.EFalse, api.ESlct:
		t.push(api.ONum, t.constant(n))
	case api.EAny:
		t.push(api.ONum, 0)
	case api.EName:
		o := t.meaning(n.S)
		t.push(o.Op, o.N)
	case api.EStr:
		t.push(api.OAddrS, t.area(api.Data{Text: n.S, IsText: true}))
	case api.ETable:
		t.table(n)
	case api.ECall:
		t.call(n)
	case api.ESub, api.ELoad:
		t.address(n)
		t.put(api.OLoad, 0)
	case api.EAddr:
		t.address(n.L[0])
	case api.EByte:
		t.expressions(n.L)
		t.pop(1, api.OGetB, 0)
	case api.EBin:
		t.expressions(n.L)
		t.binary(n.N)
	case api.EUn:
		t.expression(n.L[0])
		t.put(api.OUn, n.N)
	case api.ECond:
		t.choice(n)
	case api.EValof:
		t.valof(n)
	case api.ESel:
		t.field(n)
	}
}

func (t *translator) expressions(l []api.Node) {
	for _, n := range l {
		t.expression(n)
	}
}

// binary puts an operator of the two values on top in their place.
func (t *translator) binary(operator int) {
	t.pop(1, api.OBin, operator)
}

// binaryWith does so with the value on top and a number.
func (t *translator) binaryWith(operator, n int) {
	t.push(api.ONum, n)
	t.binary(operator)
}

// address puts the address of a variable, an ESub or ELoad on top.
func (t *translator) address(n api.Node) {
	switch n.Op {
	case api.ESub:
		t.expressions(n.L)
		t.binary(api.Add)
	case api.ELoad:
		t.expression(n.L[0])
	default:
		o := t.meaning(n.S)
		t.push(addressing(o.Op), o.N)
	}
}

func (t *translator) table(n api.Node) {
	var words []int
	for _, part := range n.L {
		words = append(words, t.constant(part))
	}
	t.push(api.OAddrS, t.area(api.Data{Words: words}))
}

func (t *translator) call(n api.Node) {
	d := t.depth
	t.stack(d + linkSize)
	t.expressions(n.L[1:])
	t.expression(n.L[0])
	t.finishCall(d)
}

// finishCall writes the call of what is on top, for which the depth was d, and which leaves its result there.
func (t *translator) finishCall(d int) {
	t.put(api.OCall, d)
	t.depth = d + 1
}

func (t *translator) choice(n api.Node) {
	d := t.depth
	t.expression(n.L[0])
	otherwise, end := t.newLabel(), t.newLabel()
	t.pop(1, api.OFalse, otherwise)
	t.expression(n.L[1])
	t.put(api.OJump, end)
	t.label(otherwise, d)
	t.expression(n.L[2])
	t.label(end, d+1)
}

func (t *translator) valof(n api.Node) {
	d, ways := t.depth, len(t.ways)
	end := t.newLabel()
	t.lead(way{op: api.CResult}, end)
	t.block(n.L[0])
	t.leave(ways)
	t.push(api.ONum, 0)
	t.pop(1, api.OResult, end)
	t.put(api.OLabel, end)
	t.put(api.OTake, d)
	t.depth = d + 1
}

// field puts the bits that a selector tells on top.
func (t *translator) field(n api.Node) {
	size, shift, offset := t.selector(n.L[0])
	t.fieldAddress(n.L[1], offset)
	t.put(api.OLoad, 0)
	if shift > 0 {
		t.binaryWith(api.Shr, shift)
	}
	if size > 0 {
		t.binaryWith(api.And, 1<<size-1)
	}
}

// fieldAddress puts the address on top at which a selector's word is.
func (t *translator) fieldAddress(whole api.Node, offset int) {
	t.expression(whole)
	if offset > 0 {
		t.binaryWith(api.Add, offset)
	}
}
