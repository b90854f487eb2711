package ocode_test

import (
	"math"
	"math/rand"
	"slices"
	"strings"

	"bluebell/api"
)

// maker makes random codes that are valid, and changes them.
type maker struct {
	*rand.Rand
	c            api.Code
	d            int   // the depth behind the code so far
	procs        int   // that there will be
	plain, taken []int // labels of the procedure that are not there yet, with OStack and with OTake
	jumps        []int // all labels of the procedure with OStack
	results      []int // and with OTake
}

func pick[T any](m *maker, l ...T) T { return l[m.Intn(len(l))] }

// overCodes looks at random codes.
func overCodes(seed int64, codes int, look func(m *maker, c api.Code)) {
	for i := range codes {
		m := &maker{Rand: rand.New(rand.NewSource(seed + int64(i)))}
		look(m, m.code())
	}
}

func (m *maker) code() api.Code {
	m.c = api.Code{Name: pick(m, "", "code", "a*\"\n\t' b")}
	for range m.Intn(4) {
		if m.Intn(2) == 0 {
			m.c.Data = append(m.c.Data, api.Data{IsText: true, Text: pick(m, "", "text", "*\"\n\t' //", strings.Repeat("x", m.Intn(101)))})
			continue
		}
		d := api.Data{}
		for range 1 + m.Intn(4) {
			d.Words = append(d.Words, m.number())
		}
		m.c.Data = append(m.c.Data, d)
	}
	m.procs = m.Intn(5)
	for range m.procs {
		m.procedure()
	}
	for _, g := range m.Perm(api.GlobalSize - 1)[:m.Intn(4)] {
		if m.procs > 0 {
			m.c.Globals = append(m.c.Globals, api.Entry{Global: g + 1, Proc: 1 + m.Intn(m.procs)})
		}
	}
	m.spread()
	m.c = counted(m.c)
	return m.c
}

// spread gives the labels other numbers, with gaps.
func (m *maker) spread() {
	to := m.Perm(counted(m.c).Labels*2 + 1)
	for i, o := range m.c.Ops {
		switch name := strings.Fields(opNames)[o.Op-1]; name {
		case "label", "jump", "true", "false", "result", "switch":
			m.c.Ops[i].N = to[o.N] + 1
		case "case":
			m.c.Ops[i].M = to[o.M] + 1
		}
	}
}

func (m *maker) number() int {
	return pick(m, m.Intn(10), m.Intn(10)-5, int(int32(m.Uint32())), -1<<31, 1<<31-1)
}

func (m *maker) emit(o ...api.Op) {
	for _, o := range o {
		m.c.Ops = append(m.c.Ops, o)
		m.d = behindReference(o, m.d)
	}
}

func (m *maker) procedure() {
	m.emit(api.Op{Op: api.OEnter, N: counted(m.c).Procs + 1, M: m.Intn(api.MaxArgs + 1)})
	m.plain, m.taken = nil, nil
	for range m.Intn(5) {
		m.c.Labels++
		m.plain = append(m.plain, m.c.Labels)
	}
	for range m.Intn(3) {
		m.c.Labels++
		m.taken = append(m.taken, m.c.Labels)
	}
	m.jumps, m.results = slices.Clone(m.plain), slices.Clone(m.taken)
	for range m.Intn(25) {
		m.step()
	}
	m.stop()
	for len(m.plain)+len(m.taken) > 0 {
		m.label()
		m.stop()
	}
}

// step adds some instructions; what they take is there.
func (m *maker) step() {
	switch m.Intn(12) {
	case 0:
		m.stop()
		m.label()
	case 1:
		m.label()
	case 2:
		m.emit(api.Op{Op: api.OStack, N: pick(m, 2, m.d, m.d+1, m.d+2, 2+m.Intn(m.d), min(m.d+api.MaxVec+2, 3900))})
	case 3, 4, 5, 6:
		m.push()
	default:
		m.use()
	}
}

func (m *maker) push() {
	o := pick(m, api.Op{Op: api.ONum, N: m.number()}, api.Op{Op: api.OAddrL, N: 2 + m.Intn(20)}, api.Op{Op: pick(m, api.OGlobal, api.OAddrG), N: m.Intn(api.GlobalSize)}, api.Op{Op: api.OProc, N: 1 + m.Intn(m.procs)})
	if m.d > 2 && m.Intn(3) == 0 {
		o = api.Op{Op: api.OLocal, N: 2 + m.Intn(m.d-2)}
	}
	if n := len(m.c.Data); n > 0 && m.Intn(3) == 0 {
		o = api.Op{Op: pick(m, api.OStatic, api.OAddrS), N: m.Intn(n)}
	}
	m.emit(o)
}

// use adds an instruction that takes something.
func (m *maker) use() {
	for m.d < 3 || m.d < 6 && m.Intn(2) == 0 {
		m.push()
	}
	l := []api.Op{{Op: api.OLoad}, {Op: api.OUn, N: pick(m, api.Neg, api.Not)}, {Op: api.OPutL, N: 2 + m.Intn(m.d-2)}, {Op: api.OPutG, N: m.Intn(api.GlobalSize)}}
	if len(m.jumps) > 0 {
		l = append(l, api.Op{Op: api.OTrue, N: pick(m, m.jumps...)}, api.Op{Op: api.OFalse, N: pick(m, m.jumps...)})
	}
	if n := len(m.c.Data); n > 0 {
		l = append(l, api.Op{Op: api.OPutS, N: m.Intn(n)})
	}
	if m.d > 3 {
		l = append(l, api.Op{Op: api.OBin, N: api.Mul + m.Intn(api.Ge)}, api.Op{Op: api.OGetB}, api.Op{Op: api.OStore})
	}
	if m.d > 4 {
		l = append(l, api.Op{Op: api.OPutB}, api.Op{Op: api.OCall, N: 2 + m.Intn(m.d-4)}, api.Op{Op: api.OCall, N: m.d - 3})
	}
	m.emit(pick(m, l...))
}

// stop adds something behind which code does not go on, and now and then dead code.
func (m *maker) stop() {
	l := [][]api.Op{{{Op: api.OBack}}}
	if m.d > 2 {
		l = append(l, []api.Op{{Op: api.OReturn}})
		if len(m.results) > 0 {
			l = append(l, []api.Op{{Op: api.OResult, N: pick(m, m.results...)}})
		}
		if len(m.jumps) > 0 {
			choice := []api.Op{{Op: api.OSwitch, N: pick(m, m.jumps...), M: m.Intn(4)}}
			for range choice[0].M {
				choice = append(choice, api.Op{Op: api.OCase, N: m.number(), M: pick(m, m.jumps...)})
			}
			l = append(l, choice)
		}
	}
	if len(m.jumps) > 0 {
		l = append(l, []api.Op{{Op: api.OJump, N: pick(m, m.jumps...)}})
	}
	m.emit(pick(m, l...)...)
	if m.Intn(5) == 0 {
		m.emit(api.Op{Op: api.OTake, N: 2 + m.Intn(5)})
		m.use()
		m.stop()
	}
}

// label adds one or more labels that are not there yet; those with OTake only where code does not go on.
func (m *maker) label() {
	last := m.c.Ops[len(m.c.Ops)-1].Op
	isStopped := slices.Contains([]int{api.OJump, api.OReturn, api.OBack, api.OResult, api.OSwitch, api.OCase}, last)
	from, then := &m.plain, api.Op{Op: api.OStack, N: pick(m, 2, m.d, 2+m.Intn(20), 3900)}
	if len(m.plain) == 0 || isStopped && m.Intn(2) == 0 {
		from, then = &m.taken, api.Op{Op: api.OTake, N: pick(m, 2, m.d, 1+m.Intn(20))}
	}
	if len(*from) == 0 || from == &m.taken && !isStopped {
		return
	}
	for range 1 + m.Intn(len(*from)) {
		m.emit(api.Op{Op: api.OLabel, N: (*from)[0]})
		*from = (*from)[1:]
	}
	m.emit(then)
}

// changed returns code with one thing changed.
func (m *maker) changed(c api.Code) api.Code {
	c = copied(c)
	switch k := m.Intn(20); {
	case k < 15 && len(c.Ops) > 0:
		m.changeOps(&c)
	case k == 15:
		c.Procs += pick(m, -1, 1, 200)
	case k == 16:
		c.Labels += pick(m, -1, 1, 20000, -100)
	case k == 17:
		c.Globals = append(c.Globals, api.Entry{Global: m.Intn(210) - 5, Proc: m.Intn(8) - 1})
	case k == 18:
		c.Data = append(c.Data, api.Data{Text: pick(m, "", "a", "\x00", strings.Repeat("x", 100+m.Intn(2))), IsText: m.Intn(2) == 0, Words: make([]int, pick(m, 0, 0, 1, 2, 7780))})
	default:
		c.Name += pick(m, "a", "\x00", strings.Repeat("x", 100))
		if len(c.Data) > 0 {
			c.Data = slices.Delete(c.Data, 0, 1)
		}
	}
	return c
}

func (m *maker) changeOps(c *api.Code) {
	i := m.Intn(len(c.Ops))
	o := &c.Ops[i]
	switch m.Intn(9) {
	case 0, 1:
		o.N += pick(m, -1, 1, -2, 2, m.Intn(40)-20)
	case 2:
		o.N = pick(m, m.number(), 0, 1, 2, 4000, 4001, 199, 200, 1<<31, math.MaxInt, math.MinInt)
	case 3:
		o.M += pick(m, -1, 1, m.number())
	case 4:
		o.Op = m.Intn(32)
	case 5:
		k := m.Intn(len(c.Ops))
		c.Ops[i], c.Ops[k] = c.Ops[k], c.Ops[i]
	case 6:
		c.Ops = slices.Delete(c.Ops, i, i+1)
	case 7:
		c.Ops = slices.Insert(c.Ops, i, pick(m, c.Ops...))
	case 8:
		c.Ops = slices.Insert(c.Ops, i, api.Op{Op: 1 + m.Intn(30), N: m.Intn(6)})
	}
	if m.Intn(2) == 0 {
		*c = counted(*c)
	}
}

// changedText returns a text with one thing changed.
func (m *maker) changedText(s string) string {
	lines := strings.SplitAfter(s, "\n")
	i, k := m.Intn(len(lines)), m.Intn(len(lines))
	at := m.Intn(len(s) + 1)
	switch m.Intn(8) {
	case 0:
		lines = slices.Delete(lines, i, i+1)
	case 1:
		lines = slices.Insert(lines, i, lines[k])
	case 2:
		lines[i], lines[k] = lines[k], lines[i]
	case 3:
		lines = slices.Insert(lines, i, pick(m, "num 1\n", "words\n", "text \"a\"\n", "entry 1 1\n", "code \"\"\n", "end\n", "\n", "bin neg\n", "un not\n", "stack 3\n", "load 1\n", "num 9223372036854775808\n"))
	case 4:
		return s[:at]
	case 5:
		return s[:at] + pick(m, " ", "\n", "0", "1", "-", "*", "\"", "a", "\x00", "ä") + s[at:]
	case 6:
		return s[:at] + s[min(at+1, len(s)):]
	case 7:
		return strings.Replace(s, pick(m, " 2", "stack", "num", "local", " "), pick(m, " 3", "stack", "bin", "putl", "", "  "), 1+m.Intn(3))
	}
	return strings.Join(lines, "")
}

// garbage makes code of any numbers.
func (m *maker) garbage() api.Code {
	wild := func() int {
		return pick(m, m.Intn(35)-2, m.Intn(35)-2, m.Intn(5), m.number(), math.MaxInt, math.MinInt)
	}
	c := api.Code{Name: pick(m, "", "\xff"), Procs: wild(), Labels: wild()}
	for range m.Intn(20) {
		c.Ops = append(c.Ops, api.Op{Op: wild(), N: wild(), M: wild()})
	}
	for range m.Intn(3) {
		c.Globals = append(c.Globals, api.Entry{Global: wild(), Proc: wild()})
		c.Data = append(c.Data, api.Data{Text: pick(m, "", "\x00", "a"), IsText: m.Intn(2) == 0, Words: make([]int, m.Intn(3))})
	}
	return c
}
