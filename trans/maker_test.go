package trans_test

import (
	"math/rand"
	"slices"

	"bluebell/api"
	"bluebell/scope"
)

// maker makes sections that scope passes.
type maker struct {
	*rand.Rand
	manifests []string // those that are known
	variables []string // statics and globals that are no procedures
	names     []string // of the section
}

func newMaker(seed int64) *maker {
	return &maker{Rand: rand.New(rand.NewSource(seed))}
}

// around is what surrounds a node: parameters and locals, labels, what may be left, and the levels that are left.
type around struct {
	locals, labels       []string
	loop, choices, valof bool
	levels               int
}

func (a around) deeper() around {
	a.levels--
	return a
}

func number(n int) api.Node { return api.Node{Op: api.ENum, N: n} }

func name(s string) api.Node { return api.Node{Op: api.EName, S: s} }

func node(op, n int, parts ...api.Node) api.Node { return api.Node{Op: op, N: n, L: parts} }

func textNode(op int, s string, parts ...api.Node) api.Node { return api.Node{Op: op, S: s, L: parts} }

func pick[T any](m *maker, l ...T) T { return l[m.Intn(len(l))] }

func (m *maker) section() api.Section {
	m.manifests, m.variables = nil, []string{"s", "r", "h"}
	m.names = []string{"m", "n", "s", "r", "g", "h", "p", "q", "start"}
	procs := pick(m, []string{"p", "q"}, []string{"p", "q", "start"}, []string{"g", "q", "p"}, []string{"q", "start", "g", "p"})
	if !slices.Contains(procs, "g") {
		m.variables = append(m.variables, "g")
	}
	makers := []func() api.Node{m.statics, m.globals}
	for _, p := range procs {
		makers = append(makers, func() api.Node { return m.proc(p) })
	}
	m.Shuffle(len(makers), func(i, k int) { makers[i], makers[k] = makers[k], makers[i] })
	s := api.Section{Name: pick(m, "", "a \"name\""), Decls: []api.Node{m.consts(api.DManifest, "m", "n")}}
	for _, next := range makers {
		s.Decls = append(s.Decls, next())
	}
	return s
}

// consts makes manifests or statics.
func (m *maker) consts(op int, names ...string) api.Node {
	var l []api.Node
	for _, s := range names {
		l = append(l, textNode(api.DConst, s, m.constant(around{levels: 4})))
		if op == api.DManifest {
			m.manifests = append(m.manifests, s)
		}
	}
	return api.Node{Op: op, L: l}
}

func (m *maker) statics() api.Node { return m.consts(api.DStatic, "s", "r") }

func (m *maker) globals() api.Node {
	return node(api.DGlobal, 0, textNode(api.DConst, "g", m.valued(12+m.Intn(90), around{levels: 3})), textNode(api.DConst, "h", m.valued(110+m.Intn(90), around{levels: 3})))
}

func (m *maker) proc(s string) api.Node {
	var parameters []api.Node
	a := around{levels: 4 + m.Intn(7)}
	for _, p := range []string{"a", "m", "b", "p"} {
		if m.Intn(4) == 0 {
			parameters = append(parameters, name(p))
			a.locals = append(a.locals, p)
		}
	}
	if m.Intn(3) == 0 {
		return textNode(api.DProc, s, append(parameters, m.expr(a))...)
	}
	n := textNode(api.DProc, s, append(parameters, m.block(a))...)
	n.N = 1
	return n
}

// constant makes a constant expression of any value.
func (m *maker) constant(a around) api.Node {
	var known []string
	for _, s := range m.manifests {
		if !slices.Contains(a.locals, s) {
			known = append(known, s)
		}
	}
	if len(known) > 0 && m.Intn(3) == 0 {
		return name(pick(m, known...))
	}
	if a.levels <= 2 {
		return pick(m, number(m.Intn(100)-50), number(int(int32(m.Uint32()))), node(api.ETrue, 0), node(api.EFalse, 0))
	}
	a.levels--
	switch m.Intn(6) {
	case 0:
		return node(api.EUn, pick(m, api.Neg, api.Not), m.constant(a))
	case 1:
		return node(api.EBin, pick(m, api.Div, api.Rem), m.constant(a), node(api.EBin, api.Or, m.constant(a.deeper()), number(1)))
	case 2:
		return node(api.ESlct, 0, m.valued(m.Intn(9), a), m.valued(m.Intn(9), a), m.valued(m.Intn(256), a))
	case 3:
		return node(api.ECond, 0, node(api.EFalse, 0), m.expr(a), m.constant(a))
	case 4:
		return node(api.ECond, 0, node(api.EBin, api.Or, number(8), m.constant(a.deeper())), m.constant(a), m.expr(a))
	}
	return node(api.EBin, pick(m, api.Mul, api.Add, api.Sub, api.Shl, api.Xor, api.Eq, api.Lt), m.constant(a), m.constant(a))
}

// valued makes a constant expression of a certain value.
func (m *maker) valued(n int, a around) api.Node {
	if a.levels > 2 && m.Intn(3) == 0 {
		a.levels--
		return pick(m, node(api.EBin, api.Add, number(n-3), number(3)), node(api.ECond, 0, number(1), number(n), m.expr(a)), node(api.EBin, api.Xor, number(^n), node(api.ETrue, 0)))
	}
	return number(n)
}

func (m *maker) selector(a around) api.Node {
	size := m.Intn(17)
	return m.valued(1024*pick(m, 0, 0, 1, m.Intn(256))+32*pick(m, 0, 16-size, m.Intn(17-size))+size, a)
}

// variable makes a name of one.
func (m *maker) variable(a around) api.Node {
	return name(pick(m, append(slices.Clone(a.locals), m.variables...)...))
}

func (m *maker) expr(a around) api.Node {
	if a.levels <= 1 || m.Intn(4) == 0 {
		known := append(append(slices.Clone(a.locals), a.locals...), m.names...)
		return pick(m, number(m.Intn(9)), textNode(api.EStr, pick(m, "s", "", "a*\"\n")), node(api.EAny, 0), name(pick(m, known...)), name(pick(m, known...)), name(pick(m, scope.Given()...)))
	}
	a.levels--
	switch m.Intn(12) {
	case 0:
		return node(api.ECall, 0, m.expr(a), m.expr(a))
	case 1:
		return node(pick(m, api.ESub, api.EByte), 0, m.expr(a), m.expr(a))
	case 2:
		return node(api.ELoad, 0, m.expr(a))
	case 3:
		return node(api.EAddr, 0, pick(m, m.variable(a), m.place(a)))
	case 4:
		return node(api.ECond, 0, m.expr(a), m.expr(a), m.expr(a))
	case 5:
		return node(api.ETable, 0, m.constant(a), m.constant(a))
	case 6:
		return node(api.ESel, 0, m.selector(a), m.expr(a))
	case 7:
		return m.constant(a)
	case 8:
		if a.levels > 3 {
			return node(api.EValof, 0, m.block(around{locals: a.locals, valof: true, levels: a.levels}))
		}
	case 9:
		return node(api.ECall, 0, name(pick(m, "p", "q")))
	case 10:
		return node(api.EUn, pick(m, api.Neg, api.Not), m.expr(a))
	}
	return node(api.EBin, 1+m.Intn(17), m.expr(a), m.expr(a))
}

// place makes what has an address.
func (m *maker) place(a around) api.Node {
	if a.levels <= 1 {
		return m.variable(a)
	}
	a.levels--
	return pick(m, node(api.ESub, 0, m.expr(a), m.expr(a)), node(api.ELoad, 0, m.expr(a)))
}

// left makes what may be assigned to.
func (m *maker) left(a around) api.Node {
	if a.levels <= 1 {
		return m.variable(a)
	}
	return pick(m, m.variable(a), m.place(a), node(api.ESel, 0, m.selector(a.deeper()), m.expr(a.deeper())), node(api.EByte, 0, m.expr(a.deeper()), m.expr(a.deeper())))
}

// block makes a block; of a switch, with cases.
func (m *maker) block(a around) api.Node { return m.items(a, false) }

func (m *maker) items(a around, cases bool) api.Node {
	labels := pick(m, nil, nil, []string{"l"}, []string{"k", "l"})
	a.labels = append(slices.Clone(a.labels), labels...)
	a.levels--
	var l []api.Node
	for i := range 1 + m.Intn(4) {
		if a.levels > 2 && m.Intn(4) == 0 {
			var item api.Node
			item, a.locals = m.local(a.deeper())
			l = append(l, item)
			continue
		}
		c := m.command(a)
		if cases && m.Intn(3) == 0 {
			c = node(api.CCase, 0, m.valued(i*7+3, a.deeper()), c)
		}
		if len(labels) > 0 && m.Intn(2) == 0 {
			c, labels = textNode(api.CLabel, labels[0], c), labels[1:]
		}
		if cases && m.Intn(2) == 0 {
			c = node(api.CCase, 0, m.valued(i*7, a.deeper()), c)
		}
		l = append(l, c)
	}
	for _, s := range labels {
		l = append(l, textNode(api.CLabel, s, node(api.CNull, 0)))
	}
	if cases && m.Intn(2) == 0 {
		l = slices.Insert(l, m.Intn(len(l)+1), node(api.CDefault, 0, node(api.CCase, 0, number(1000), node(api.CNull, 0))))
	}
	return node(api.CBlock, 0, l...)
}

// local makes an item that declares names, and tells the locals that are known behind it.
func (m *maker) local(a around) (api.Node, []string) {
	s := pick(m, "a", "b", "c", "m", "p", "s", "rdch")
	locals := append(slices.Clone(a.locals), s)
	switch m.Intn(3) {
	case 0:
		return textNode(api.CVec, s, m.valued(pick(m, m.Intn(9), m.Intn(9), m.Intn(2001), 2000), a)), locals
	case 1:
		return node(api.CLet, 2, name(s), name("v"), m.expr(a), m.expr(a)), append(locals, "v")
	}
	return node(api.CLet, 1, name(s), m.expr(a)), locals
}

func (m *maker) command(a around) api.Node {
	if a.levels <= 3 {
		return m.simple(a)
	}
	a.levels--
	inLoop := a
	inLoop.loop = true
	switch m.Intn(10) {
	case 0:
		return node(pick(m, api.CIf, api.CUnless), 0, m.expr(a), m.command(a))
	case 1:
		return node(api.CTest, 0, m.expr(a), m.command(a), m.command(a))
	case 2:
		return node(pick(m, api.CWhile, api.CUntil), 0, m.expr(a), m.command(inLoop))
	case 3:
		return node(pick(m, api.CRepWh, api.CRepUn), 0, m.block(inLoop), m.expr(a))
	case 4:
		return node(api.CRepeat, 0, m.block(inLoop))
	case 5:
		return m.counted(a, inLoop)
	case 6:
		inSwitch := a
		inSwitch.choices = true
		return node(api.CSwitch, 0, m.expr(a), m.items(inSwitch, true))
	case 7:
		return m.block(a)
	case 8:
		return node(api.CAssign, 2, m.left(a), m.left(a), m.expr(a), m.expr(a))
	}
	return m.simple(a)
}

func (m *maker) counted(a, inLoop around) api.Node {
	s := pick(m, "i", "a", "m", "p", "g")
	inLoop.locals = append(slices.Clone(a.locals), s)
	l := []api.Node{m.expr(a), m.expr(a)}
	if m.Intn(2) == 0 {
		l = append(l, m.valued(pick(m, 1, -1, 3), a))
	}
	n := textNode(api.CFor, s, append(l, m.command(inLoop))...)
	n.N = len(n.L) - 3
	return n
}

// simple makes a command of at most three levels that may stand there.
func (m *maker) simple(a around) api.Node {
	a.levels = 1
	l := []api.Node{node(api.CNull, 0), node(api.CFinish, 0), node(api.CAssign, 1, m.variable(a), m.expr(a)), node(api.CCall, 0, node(api.ECall, 0, m.expr(a), m.expr(a)))}
	if a.loop {
		l = append(l, node(api.CBreak, 0), node(api.CLoop, 0))
	}
	if a.choices {
		l = append(l, node(api.CEndcase, 0))
	}
	if a.valof {
		l = append(l, node(api.CResult, 0, m.expr(a)))
	} else {
		l = append(l, node(api.CReturn, 0))
	}
	if len(a.labels) > 0 {
		l = append(l, textNode(api.CGoto, pick(m, a.labels...)))
	}
	return pick(m, l...)
}
