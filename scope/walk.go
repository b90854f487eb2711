package scope

import "bluebell/api"

// A walk tells one of these whenever it gets there.
type (
	// come: to a node; its parts follow.
	come struct {
		api.Node
		as place
	}
	// opened: a node whose parts follow, and which ends what is declared within.
	opened struct{ api.Node }
	// declared: names that are known from here on.
	declared struct{ names []api.Node }
	// closed: the end of the node that was opened last.
	closed struct{}
)

// place is what a node's place asks of it.
type place int

const (
	anything  place = iota
	anItem          // nothing else, and it is an item of the innermost block
	aLeft           // of an assignment
	anAddress       // what EAddr can be of
	aConstant
	aSelector // a constant that is one
	aSize     // a constant that is one of a CVec
	aStep     // a constant by which a CFor goes on
)

// asksConstant reports whether what stands at a place has to be constant.
func (p place) asksConstant() bool {
	return p >= aConstant
}

// placeOf tells the place of a part of a node, which has a place itself.
func placeOf(n api.Node, part int, as place) place {
	switch {
	case n.Op == api.CBlock:
		return anItem
	case n.Op == api.CLabel, n.Op == api.CDefault, n.Op == api.CCase && part == 1:
		return as // the command behind an item is an item, too
	case n.Op == api.CAssign && part < n.N:
		return aLeft
	case n.Op == api.EAddr:
		return anAddress
	case n.Op == api.ETable, n.Op == api.CCase:
		return aConstant
	case n.Op == api.ESel && part == 0:
		return aSelector
	case n.Op == api.CVec:
		return aSize
	case n.Op == api.CFor && n.N == 1 && part == 2:
		return aStep
	}
	return anything
}

// declares returns the names that a node of a procedure declares; they are no uses.
func declares(n api.Node) []api.Node {
	switch n.Op {
	case api.DProc:
		return n.L[:len(n.L)-1]
	case api.CLet:
		return n.L[:n.N]
	case api.CFor, api.CVec:
		return []api.Node{{Op: api.EName, S: n.S, At: n.At}}
	}
	return nil
}

// opens reports whether what is declared within a node with this Op, or what may be left from within, ends with the node.
func opens(op int) bool {
	return op == api.DProc || op == api.EValof || op == api.CBlock || op == api.CSwitch || isLoop(op)
}

func isLoop(op int) bool {
	switch op {
	case api.CWhile, api.CUntil, api.CRepeat, api.CRepWh, api.CRepUn, api.CFor:
		return true
	}
	return false
}

// walker is told what a walk comes to, in the order in which trees are examined.
type walker func(event any)

// node walks through a node and all in it.
func (tell walker) node(n api.Node, as place) {
	tell(come{n, as})
	if !opens(n.Op) {
		tell.within(n, as)
		return
	}
	tell(opened{n})
	tell.within(n, as)
	tell(closed{})
}

// within walks through the parts of a node that are uses, and tells the names that it declares when they are known.
func (tell walker) within(n api.Node, as place) {
	count := len(n.L)
	switch n.Op {
	case api.DProc:
		tell(declared{declares(n)})
		tell.parts(n, count-1, count, as)
	case api.CFor:
		tell.parts(n, 0, count-1, as)
		tell(declared{declares(n)})
		tell.parts(n, count-1, count, as)
	case api.CLet:
		tell.parts(n, n.N, count, as)
		tell(declared{declares(n)})
	case api.CVec:
		tell.parts(n, 0, count, as)
		tell(declared{declares(n)})
	default:
		tell.parts(n, 0, count, as)
	}
}

// parts walks through the parts of a node from one on, up to another one.
func (tell walker) parts(n api.Node, from, to int, as place) {
	for i := from; i < to; i++ {
		tell.node(n.L[i], placeOf(n, i, as))
	}
}
