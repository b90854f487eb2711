package mean

import "bluebell/api"

// block is a block that is built.
type block struct {
	items     []command // labels, cases and defaults are items beside the command behind them
	locals    []declaration
	first     signal      // its first label's jump; those of the others follow
	labels    []int       // the items to which its labels lead
	cases     map[int]int // the items to which its cases lead, by their constants as words
	otherwise int         // the item to which its default leads, or none
	narrow    bool        // the constants of all its cases are
}

const none = -1

// declaration is that of a local by an item.
type declaration struct {
	slot, item int
}

// block builds a CBlock.
func (b *builder) block(n api.Node) *block {
	made := &block{cases: map[int]int{}, otherwise: none, narrow: true}
	known, labels := len(b.known), len(b.labels)
	list := flat(n.L)
	b.findLabels(made, list)
	for i, item := range list {
		b.item(made, i, item)
	}
	b.forget(known)
	b.labels = b.labels[:labels]
	return made
}

// flat returns items with the command behind a label, case or default as a further one.
func flat(items []api.Node) []api.Node {
	var list []api.Node
	for _, item := range items {
		for item.Op == api.CLabel || item.Op == api.CCase || item.Op == api.CDefault {
			list = append(list, item)
			item = item.L[len(item.L)-1]
		}
		list = append(list, item)
	}
	return list
}

// findLabels makes the labels of a block known.
func (b *builder) findLabels(made *block, list []api.Node) {
	made.first = b.next
	for i, item := range list {
		if item.Op == api.CLabel {
			b.labels = append(b.labels, label{item.S, b.next})
			b.next++
			made.labels = append(made.labels, i)
		}
	}
}

// item builds an item of a block.
func (b *builder) item(made *block, i int, n api.Node) {
	switch n.Op {
	case api.CCase:
		b.addCase(made, i, b.constant(n.L[0]))
	case api.CDefault:
		made.otherwise = i
	}
	slot := len(b.known)
	made.items = append(made.items, b.command(n))
	for ; slot < len(b.known); slot++ {
		made.locals = append(made.locals, declaration{slot, i})
	}
}

func (b *builder) addCase(made *block, i, constant int) {
	made.narrow = made.narrow && isNarrow(constant)
	w := numberOf(b.number(constant))
	if _, ok := made.cases[w]; !ok { // the first one counts, if constants become the same word
		made.cases[w] = i
	}
}

// run runs a block from an item on.
func (b *block) run(f *frame, from int) signal {
	b.arrange(f, from)
	for i := from; i < len(b.items); {
		s := b.items[i](f)
		i++
		if s == goOn {
			continue
		}
		if s < b.first || int(s-b.first) >= len(b.labels) {
			b.arrange(f, none)
			return s
		}
		i = b.labels[s-b.first]
		b.arrange(f, i)
	}
	b.arrange(f, none)
	return goOn
}

// arrange does with the locals what a jump to an item asks for: those declared behind it end, those before it are there. With none it ends them all.
func (b *block) arrange(f *frame, item int) {
	for _, d := range b.locals {
		switch {
		case d.item >= item:
			f.endLocal(d.slot)
		case f.locals[d.slot] == nil:
			f.locals[d.slot] = newCell(nil)
		}
	}
}

// find returns the item to which a switch over a block leads, or none.
func (b *block) find(n int) int {
	if i, ok := b.cases[n]; ok {
		return i
	}
	return b.otherwise
}

func (b *builder) switching(n api.Node) command {
	choose, made := b.value(n.L[0]), b.block(n.L[1])
	return func(f *frame) signal {
		v := numberOf(choose(f))
		f.require(made.narrow)
		i := made.find(v)
		if i == none {
			return goOn
		}
		f.step() // the block's
		if s := made.run(f, i); s != leaveSwitch {
			return s
		}
		return goOn
	}
}

func (b *builder) let(n api.Node) command {
	expressions := b.values(n.L[n.N:])
	first := b.declare(n.L[:n.N]...)
	b.words += n.N
	return func(f *frame) signal {
		var values [api.MaxArgs]value
		for i, e := range expressions {
			values[i] = e(f)
		}
		for i := range expressions {
			f.locals[first+i] = newCell(values[i])
		}
		return goOn
	}
}

func (b *builder) vec(n api.Node) command {
	size := b.constant(n.L[0])
	slot := b.declare(n)
	b.words += size + wordsOfVec
	return func(f *frame) signal {
		vector := newObject(size + 1)
		f.locals[slot] = newCell(address{in: vector})
		f.locals[slot].vector = vector
		return goOn
	}
}
