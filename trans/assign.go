package trans

import (
	"bluebell/api"
	"bluebell/word"
)

const constantBits = 32 // of the words by which constants are computed

// assignment assigns pair by pair.
func (t *translator) assignment(n api.Node) {
	for i := range n.N {
		t.assign(n.L[i], n.L[n.N+i])
	}
}

func (t *translator) assign(left, right api.Node) {
	if left.Op == api.ESel {
		t.assignField(left, right)
		return
	}
	t.expression(right)
	switch left.Op {
	case api.EName:
		o := t.meaning(left.S)
		t.pop(1, putting(o.Op), o.N)
	case api.EByte:
		t.expressions(left.L)
		t.pop(3, api.OPutB, 0)
	default:
		t.address(left)
		t.pop(2, api.OStore, 0)
	}
}

// assignField keeps the word's address as the local d, as it is needed twice: for the old word, and for the new one.
func (t *translator) assignField(left, right api.Node) {
	d := t.depth
	size, shift, offset := t.selector(left.L[0])
	t.fieldAddress(left.L[1], offset)
	t.expression(right)
	if size > 0 {
		t.binaryWith(api.And, 1<<size-1)
	}
	if shift > 0 {
		t.binaryWith(api.Shl, shift)
	}
	t.push(api.OLocal, d)
	t.put(api.OLoad, 0)
	t.binaryWith(api.And, otherBits(size, shift))
	t.binary(api.Or)
	t.push(api.OLocal, d)
	t.pop(2, api.OStore, 0)
	t.stack(d)
}

// otherBits returns the bits of a word that a selector does not tell.
func otherBits(size, shift int) int {
	mask := -1
	if size > 0 {
		mask = 1<<size - 1
	}
	bits, _ := word.Apply(api.Shl, mask, shift, constantBits) // no error: these operators have none
	bits, _ = word.Apply(api.Not, bits, 0, constantBits)
	return bits
}
