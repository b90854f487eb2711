package mean_test

import (
	"math/rand"
	"slices"

	"bluebell/api"
)

// maker makes programs most of which run for a while. What is said of a name is what the program means it to have; now and then there is something else.
type maker struct {
	*rand.Rand
	odd int // one of as many expressions is of any kind
}

// around is what surrounds a node.
type around struct {
	numbers             []string // variables with numbers
	words, bytes        []vector // with numbers, with bytes
	labels              []string
	loop, choice, valof bool
	levels              int // that are left
	procs               int // of the procedures f, p, q, r, as many may be called
}

type vector struct {
	name string
	last int // its greatest index
}

func (a around) deeper() around {
	a.levels--
	return a
}

func node(op, n int, parts ...api.Node) api.Node { return api.Node{Op: op, N: n, L: parts} }

func textNode(op int, s string, parts ...api.Node) api.Node { return api.Node{Op: op, S: s, L: parts} }

func num(n int) api.Node {
	if n < 0 {
		return node(api.EUn, api.Neg, num(-n))
	}
	return api.Node{Op: api.ENum, N: n}
}

func name(s string) api.Node { return textNode(api.EName, s) }

func call(p string, args ...api.Node) api.Node {
	return node(api.ECall, 0, append([]api.Node{name(p)}, args...)...)
}

func pick[T any](m *maker, l ...T) T { return l[m.Intn(len(l))] }

// program makes one; its manifests stand before its procedures.
func (m *maker) program() api.Section {
	a := around{numbers: []string{"s", "t", "g"}, words: []vector{}, levels: 6 + m.Intn(5)}
	with := func(procs int, names ...string) around {
		b := a
		b.procs = procs
		b.numbers = append(slices.Clone(a.numbers), names...)
		if m.Intn(8) == 0 {
			b.procs = 4
		}
		return b
	}
	q := with(1, "a")
	q.words = append(q.words, vector{"v", 2})
	start := m.block(with(4), nil)
	start.L = slices.Insert(start.L, 0, node(api.CAssign, 1, name("g"), num(m.small())))
	procs := []api.Node{
		{Op: api.DProc, S: "start", N: 1, L: []api.Node{start}},
		textNode(api.DProc, "f", name("a"), m.number(with(0, "a"))),
		{Op: api.DProc, S: "p", N: 1, L: []api.Node{name("a"), name("b"), m.block(with(1, "a", "b"), nil)}},
		textNode(api.DProc, "q", name("v"), name("a"), m.number(q)),
		textNode(api.DProc, "r", name("a"), node(api.EValof, 0, m.valof(with(3, "a")))),
	}
	m.Shuffle(len(procs), func(i, k int) { procs[i], procs[k] = procs[k], procs[i] })
	globals := []api.Node{textNode(api.DConst, "g", num(20))}
	if m.Intn(2) == 0 {
		globals = append(globals, textNode(api.DConst, "p", num(21)))
	}
	first := []api.Node{
		node(api.DManifest, 0, textNode(api.DConst, "m", num(m.small())), textNode(api.DConst, "n", node(api.EBin, api.Add, name("m"), num(1)))),
		node(api.DStatic, 0, textNode(api.DConst, "s", num(m.small())), textNode(api.DConst, "t", name("n"))),
		node(api.DGlobal, 0, globals...),
	}
	return api.Section{Decls: append(first, procs...)}
}

func (m *maker) small() int {
	return pick(m, 0, 1, 2, 3, 7, 10, 65, 100, 255, -1, -5, m.Intn(500), m.Intn(40000))
}

// odds makes an expression of any kind.
func (m *maker) odds(a around) api.Node {
	l := []api.Node{node(api.EAny, 0), name("f"), name("wrch"), textNode(api.EStr, "xyz"), node(api.ETable, 0, num(1)), name("g"), node(api.EAddr, 0, name("s")), num(70000)}
	for _, v := range append(slices.Clone(a.words), a.bytes...) {
		l = append(l, name(v.name), node(api.EBin, api.Add, name(v.name), num(v.last+1)))
	}
	return pick(m, l...)
}

func (m *maker) variable(a around) api.Node { return name(pick(m, a.numbers...)) }

// number makes an expression that should be a number.
func (m *maker) number(a around) api.Node {
	if m.Intn(m.odd) == 0 {
		return m.odds(a)
	}
	if a.levels <= 1 || m.Intn(4) == 0 {
		return pick(m, num(m.Intn(10)), num(m.Intn(300)), name("m"), name("n"), node(api.ETrue, 0), node(api.EFalse, 0), m.variable(a), m.variable(a), m.variable(a))
	}
	a.levels--
	switch m.Intn(13) {
	case 0:
		return node(api.EUn, pick(m, api.Neg, api.Not), m.number(a))
	case 1:
		return node(api.ECond, 0, m.condition(a), m.number(a), m.number(a))
	case 2:
		if a.levels > 4 {
			return node(api.EValof, 0, m.valof(a))
		}
	case 3:
		return m.called(a)
	case 4:
		return node(api.ESub, 0, m.parts(m.element(a))...)
	case 5:
		return node(api.EByte, 0, m.parts(m.byteOf(a))...)
	case 6:
		return m.field(a)
	case 7:
		return pick(m, node(api.ESub, 0, node(api.ETable, 0, num(3), num(4), num(5)), num(m.Intn(3))), node(api.EByte, 0, textNode(api.EStr, "hello"), num(m.Intn(6))), node(api.ESlct, 0, num(m.Intn(5)), num(m.Intn(5)), num(m.Intn(2))))
	case 8:
		return m.relation(a)
	}
	return m.operation(a)
}

func (m *maker) operation(a around) api.Node {
	op := 1 + m.Intn(17)
	if op == api.Div || op == api.Rem {
		return node(api.EBin, op, m.number(a), pick(m, num(1+m.Intn(9)), num(1+m.Intn(9)), m.number(a)))
	}
	if op == api.Shl || op == api.Shr {
		return node(api.EBin, op, node(api.EBin, api.And, m.number(a), num(255)), pick(m, num(m.Intn(8)), num(m.Intn(8)), m.number(a)))
	}
	if op == api.Mul {
		op = pick(m, api.Mul, api.Add, api.Sub)
	}
	return node(api.EBin, op, m.number(a), m.number(a))
}

func (m *maker) parts(x, y api.Node) []api.Node { return []api.Node{x, y} }

// element makes the address and the index of a word.
func (m *maker) element(a around) (api.Node, api.Node) {
	if len(a.words) == 0 {
		return node(api.EAddr, 0, m.variable(a)), num(0)
	}
	v := pick(m, a.words...)
	i := num(m.Intn(v.last + 1))
	if m.Intn(4) == 0 {
		i = node(api.EBin, api.And, m.number(a), num(v.last&1))
	}
	if m.Intn(6) == 0 {
		return i, name(v.name)
	}
	return pick(m, name(v.name), node(api.EBin, api.Add, name(v.name), num(0)), node(api.EAddr, 0, node(api.ESub, 0, name(v.name), num(0)))), i
}

// byteOf makes the address and the index of a byte.
func (m *maker) byteOf(a around) (api.Node, api.Node) {
	if len(a.bytes) == 0 {
		return textNode(api.EStr, "abcdef"), num(m.Intn(7))
	}
	v := pick(m, a.bytes...)
	return name(v.name), num(m.Intn(v.last + 1))
}

func (m *maker) field(a around) api.Node {
	size := m.Intn(9)
	s := node(api.ESlct, 0, num(size), num(m.Intn(8)), num(0))
	base, i := m.element(a)
	return node(api.ESel, 0, s, node(api.EBin, api.Add, base, i))
}

// relation makes a relation, or a difference, of addresses or procedures.
func (m *maker) relation(a around) api.Node {
	op := pick(m, api.Eq, api.Ne)
	if len(a.words) == 0 {
		return node(api.EBin, op, pick(m, name("f"), name("wrch")), pick(m, name("f"), num(0)))
	}
	v, u := pick(m, a.words...), pick(m, a.words...)
	x := node(api.EBin, api.Add, name(v.name), num(m.Intn(v.last+1)))
	if m.Intn(2) == 0 {
		return node(api.EBin, pick(m, api.Sub, api.Lt, api.Le, api.Ge, api.Gt, api.Eq), x, node(api.EBin, api.Add, name(v.name), num(m.Intn(v.last+2))))
	}
	return node(api.EBin, op, x, pick(m, name(u.name), num(0), name("f")))
}

func (m *maker) condition(a around) api.Node {
	if len(a.words) > 0 && m.Intn(8) == 0 {
		return name(pick(m, a.words...).name)
	}
	return m.number(a)
}

// called makes a call that gives a number.
func (m *maker) called(a around) api.Node {
	v := api.Node{}
	if len(a.words) > 0 {
		v = name(a.words[0].name)
	} else {
		v = node(api.ETable, 0, num(1), num(2), num(3))
	}
	own := []api.Node{call("f", m.number(a)), call("p", m.number(a), m.number(a)), call("q", v, m.number(a)), call("r", m.number(a))}
	if a.procs > 0 && m.Intn(3) > 0 {
		return pick(m, own[:a.procs]...)
	}
	return pick(m, call("rdch"), call("muldiv", m.number(a), m.number(a), num(1+m.Intn(9))), call("wrch", m.number(a)))
}

// left makes what may be assigned a number.
func (m *maker) left(a around) api.Node {
	switch m.Intn(6) {
	case 0:
		return node(api.ESub, 0, m.parts(m.element(a))...)
	case 1:
		if len(a.bytes) > 0 {
			return node(api.EByte, 0, m.parts(m.byteOf(a))...)
		}
	case 2:
		return m.field(a)
	case 3:
		return node(api.ELoad, 0, node(api.EAddr, 0, m.variable(a)))
	}
	return m.variable(a)
}

func (m *maker) valof(a around) api.Node {
	a.loop, a.choice, a.labels, a.valof = false, false, nil, true
	last := node(api.CResult, 0, m.number(a.deeper()))
	return m.block(a, []api.Node{last})
}

// block makes a block with items at its end.
func (m *maker) block(a around, last []api.Node) api.Node { return m.items(a, false, last) }

func (m *maker) items(a around, cases bool, last []api.Node) api.Node {
	a.levels--
	labels := pick(m, nil, nil, []string{"l"}, []string{"k", "l"})
	a.labels = append(slices.Clone(a.labels), labels...)
	var l []api.Node
	for i := range 1 + m.Intn(5) {
		if a.levels > 4 && m.Intn(3) == 0 {
			var items []api.Node
			items, a = m.local(a)
			l = append(l, items...)
			continue
		}
		c := m.command(a)
		if len(labels) > 0 && m.Intn(2) == 0 {
			c, labels = textNode(api.CLabel, labels[0], c), labels[1:]
		}
		if cases && m.Intn(2) == 0 {
			c = node(api.CCase, 0, num(i), c)
		}
		l = append(l, c)
	}
	for _, s := range labels {
		l = append(l, textNode(api.CLabel, s, node(api.CNull, 0)))
	}
	if cases && m.Intn(2) == 0 {
		l = append(l, node(api.CDefault, 0, m.command(a)))
	}
	return node(api.CBlock, 0, append(l, last...)...)
}

// local makes items that declare a name, or two.
func (m *maker) local(a around) ([]api.Node, around) {
	s := pick(m, "c", "d", "e", "h", "u")
	other := "o"
	forget := func(names ...string) {
		a.numbers = slices.DeleteFunc(slices.Clone(a.numbers), func(x string) bool { return slices.Contains(names, x) })
		gone := func(v vector) bool { return slices.Contains(names, v.name) }
		a.words = slices.DeleteFunc(slices.Clone(a.words), gone)
		a.bytes = slices.DeleteFunc(slices.Clone(a.bytes), gone)
	}
	first, second := m.number(a.deeper()), m.number(a.deeper())
	switch m.Intn(5) {
	case 0, 1:
		last := 2 + m.Intn(3)
		forget(s)
		item := textNode(api.CVec, s, num(last))
		if m.Intn(3) == 0 {
			item = node(api.CLet, 1, name(s), call("getvec", num(last)))
		}
		left := node(api.ESub, 0, name(s), name("i"))
		if m.Intn(2) == 0 {
			a.bytes = append(a.bytes, vector{s, 2*last + 1})
			left.Op = api.EByte
			last = 2*last + 1
		} else {
			a.words = append(a.words, vector{s, last})
		}
		fill := textNode(api.CFor, "i", num(0), num(last), node(api.CAssign, 1, left, pick(m, name("i"), num(m.Intn(300)))))
		return []api.Node{item, fill}, a
	case 2:
		forget(s, other)
		a.numbers = append(a.numbers, s, other)
		return []api.Node{node(api.CLet, 2, name(s), name(other), first, second)}, a
	}
	forget(s)
	a.numbers = append(a.numbers, s)
	return []api.Node{node(api.CLet, 1, name(s), first)}, a
}

func (m *maker) command(a around) api.Node {
	if a.levels <= 3 || m.Intn(4) == 0 {
		return m.simple(a)
	}
	a.levels--
	inLoop := a
	inLoop.loop = true
	switch m.Intn(10) {
	case 0:
		return node(pick(m, api.CIf, api.CUnless), 0, m.condition(a), m.command(a))
	case 1:
		return node(api.CTest, 0, m.condition(a), m.command(a), m.command(a))
	case 2:
		return node(pick(m, api.CWhile, api.CUntil), 0, m.condition(a), m.command(inLoop))
	case 3:
		return node(pick(m, api.CRepWh, api.CRepUn), 0, m.block(inLoop, nil), m.condition(a))
	case 4:
		return node(api.CRepeat, 0, m.block(inLoop, []api.Node{node(api.CIf, 0, m.number(a), node(api.CBreak, 0))}))
	case 5, 6:
		return m.counted(a, inLoop)
	case 7, 8:
		inSwitch := a
		inSwitch.choice = true
		return node(api.CSwitch, 0, node(api.EBin, api.And, m.number(a), num(7)), m.items(inSwitch, true, nil))
	}
	return m.block(a, nil)
}

func (m *maker) counted(a, inLoop around) api.Node {
	inLoop.numbers = append(slices.Clone(a.numbers), "i")
	inLoop.words = slices.DeleteFunc(slices.Clone(a.words), func(v vector) bool { return v.name == "i" })
	from, to := num(m.Intn(4)), num(m.Intn(7))
	if m.Intn(4) == 0 {
		to = m.number(a)
	}
	l := []api.Node{from, to}
	switch m.Intn(4) {
	case 0:
		l = append(l, num(1+m.Intn(3)))
	case 1:
		l = append([]api.Node{to, from}, num(-1-m.Intn(2)))
	}
	n := textNode(api.CFor, "i", append(l, m.command(inLoop))...)
	n.N = len(n.L) - 3
	return n
}

// simple makes a command of few levels.
func (m *maker) simple(a around) api.Node {
	a.levels = min(a.levels-1, 4)
	assign := node(api.CAssign, 1, m.left(a), m.number(a))
	write := node(api.CCall, 0, call("wrch", m.number(a.deeper())))
	l := []api.Node{assign, assign, assign, write, write, node(api.CCall, 0, m.called(a.deeper())), node(api.CAssign, 2, m.left(a), m.left(a), m.number(a), m.number(a)), node(api.CNull, 0)}
	if a.loop {
		l = append(l, node(api.CBreak, 0), node(api.CLoop, 0))
	}
	if a.choice {
		l = append(l, node(api.CEndcase, 0))
	}
	if a.valof {
		l = append(l, node(api.CResult, 0, m.number(a)))
	} else if m.Intn(4) == 0 {
		l = append(l, node(api.CReturn, 0))
	}
	if len(a.labels) > 0 {
		l = append(l, textNode(api.CGoto, pick(m, a.labels...)))
	}
	if m.Intn(30) == 0 {
		l = append(l, node(api.CFinish, 0), node(api.CCall, 0, call("stop", m.number(a))))
	}
	return pick(m, l...)
}
