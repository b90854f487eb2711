package trans

import "bluebell/api"

// marked returns the labels, cases and defaults of a block, in order: its items, and those behind such items.
func marked(block api.Node) []api.Node {
	var list []api.Node
	for _, item := range block.L {
		for item.Op == api.CLabel || item.Op == api.CCase || item.Op == api.CDefault {
			list = append(list, item)
			item = item.L[len(item.L)-1]
		}
	}
	return list
}

func (t *translator) block(n api.Node) {
	d, known, ways := t.depth, len(t.locals), len(t.ways)
	for _, item := range marked(n) {
		if item.Op == api.CLabel {
			t.lead(t.wayOf(item), t.newLabel())
		}
	}
	for _, item := range n.L {
		t.command(item)
	}
	t.leave(ways)
	t.forget(known)
	if t.depth != d {
		t.stack(d)
	}
}

func (t *translator) let(n api.Node) {
	d := t.depth
	t.expressions(n.L[n.N:])
	t.knowAll(n.L[:n.N], d)
}

// vec makes a local that is the address of the words behind it.
func (t *translator) vec(n api.Node) {
	d, size := t.depth, t.constant(n.L[0])
	t.push(api.OAddrL, d+1)
	t.know(n.S, d)
	t.stack(d + size + 2)
}

func (t *translator) switching(n api.Node) {
	t.expression(n.L[0])
	ways := len(t.ways)
	cases, otherwise := t.leadToCases(n.L[1])
	end := t.newLabel()
	if otherwise == 0 {
		otherwise = end
	}
	t.add(api.Op{Op: api.OSwitch, N: otherwise, M: len(cases)})
	t.add(cases...)
	t.depth--
	t.lead(way{op: api.CEndcase}, end)
	t.block(n.L[1])
	t.leave(ways)
	t.label(end, t.depth)
}

// leadToCases makes ways to the cases of a switch's block and to its default, and returns the OCase of all cases, and the default's label, or 0.
func (t *translator) leadToCases(block api.Node) (cases []api.Op, otherwise int) {
	list := marked(block)
	for _, item := range list {
		if item.Op == api.CCase {
			w, label := t.wayOf(item), t.newLabel()
			cases = append(cases, api.Op{Op: api.OCase, N: w.constant, M: label})
			t.lead(w, label)
		}
	}
	for _, item := range list {
		if item.Op == api.CDefault {
			otherwise = t.newLabel()
			t.lead(t.wayOf(item), otherwise)
		}
	}
	return cases, otherwise
}

// wayOf returns what leads to a label, case or default.
func (t *translator) wayOf(n api.Node) way {
	switch n.Op {
	case api.CLabel:
		return way{op: api.CGoto, name: n.S}
	case api.CCase:
		return way{op: n.Op, constant: t.constant(n.L[0])}
	}
	return way{op: n.Op}
}

// arriving writes a label, case or default, and the command behind it.
func (t *translator) arriving(n api.Node) {
	t.label(t.target(t.wayOf(n)), t.depth)
	t.command(n.L[len(n.L)-1])
}
