package stack_test

import (
	"fmt"
	"math/rand"
	"strings"
)

// maker makes code, line by line, that does all kinds of things, most of them right ones, and some of them wrong ones.
type maker struct {
	*rand.Rand
	lines         []string
	d             int // the depth behind the lines so far
	labels, procs int
	params        []int
	odd           int // one of as many things is wrong
}

// What globals are for in the code that is made; those of procedures follow the last one.
const (
	firstNumber    = 100 // numbers, in three globals
	firstVector    = 103 // addresses of vectors, in two
	firstCoroutine = 105 // and of coroutines, in three
	firstEntry     = 108
)

func pick[T any](m *maker, l ...T) T { return l[m.Intn(len(l))] }

func newMaker(seed int64, odd int) *maker {
	return &maker{Rand: rand.New(rand.NewSource(seed)), odd: odd}
}

func (m *maker) isOdd() bool { return m.Intn(m.odd) == 0 }

// code makes the text of code.
func (m *maker) code() string {
	m.procs = 2 + m.Intn(4)
	m.put(0, "words 5 -6 70000 40", "text \"hello\"", "words 1 2 3 4 5 6 7 8", "entry 1 1")
	for p := 1; p <= m.procs; p++ {
		m.params = append(m.params, pick(m, 0, 1, 1, 2, 3))
		if m.Intn(2) == 0 {
			m.put(0, fmt.Sprint("entry ", firstEntry+p, " ", p))
		}
	}
	m.params[0] = 0
	for p := 1; p <= m.procs; p++ {
		m.d = 2 + m.params[p-1]
		m.put(0, fmt.Sprint("enter ", p, " ", m.params[p-1]))
		if p == 1 {
			m.first()
		}
		m.commands(4)
		m.expression(3)
		m.put(-1, "return 0")
	}
	return strings.Join(m.lines, ",")
}

// put adds lines that change the depth by so much.
func (m *maker) put(change int, lines ...string) {
	m.lines = append(m.lines, lines...)
	m.d += change
}

func (m *maker) stack(d int) {
	m.put(d-m.d, fmt.Sprint("stack ", d))
}

func (m *maker) newLabel() int {
	m.labels++
	return m.labels
}

func (m *maker) label(l, d int) {
	m.put(0, fmt.Sprint("label ", l))
	m.stack(d)
}

// first puts something into the globals that others expect there.
func (m *maker) first() {
	for g := firstNumber; g < firstVector; g++ {
		m.number()
		m.put(-1, fmt.Sprint("putg ", g))
	}
	for g := firstVector; g < firstCoroutine; g++ {
		m.call(5, pick(m, 0, 3, 10, 100))
		m.put(-1, fmt.Sprint("putg ", g))
	}
	for g := firstCoroutine; g < firstEntry; g++ {
		m.create(g)
	}
}

// create makes a coroutine of a procedure, and puts it into a global.
func (m *maker) create(g int) {
	d := m.d
	m.stack(d + 2)
	m.put(1, fmt.Sprint("proc ", 1+m.Intn(m.procs)))
	if m.isOdd() {
		m.lines[len(m.lines)-1] = "num 5"
	}
	m.put(1, fmt.Sprint("num ", pick(m, 40, 80, 150, 300, 8, -1)))
	m.put(1, "global 8")
	m.put(d+1-m.d, fmt.Sprint("call ", d))
	m.put(-1, fmt.Sprint("putg ", g))
}

func (m *maker) number() {
	m.put(1, fmt.Sprint("num ", pick(m, 0, 1, 2, 3, -1, 10, 65, 255, -7, 32767, -32768, m.Intn(70000))))
}

// call calls a given procedure with numbers.
func (m *maker) call(g int, args ...int) {
	d := m.d
	m.stack(d + 2)
	for _, a := range args {
		m.put(1, fmt.Sprint("num ", a))
	}
	m.put(1, fmt.Sprint("global ", g))
	m.put(d+1-m.d, fmt.Sprint("call ", d))
}

func (m *maker) local() int {
	return 2 + m.Intn(m.d-2)
}

// address makes an address at which something may be written.
func (m *maker) address() {
	switch m.Intn(5) {
	case 0:
		m.put(1, fmt.Sprint("addrs ", pick(m, 0, 2)))
	case 1:
		m.put(1, fmt.Sprint("addrg ", firstNumber+m.Intn(3)))
	case 2:
		if m.d > 2 {
			m.put(1, fmt.Sprint("addrl ", m.local()))
			return
		}
		m.put(1, "addrs 1")
	case 3:
		if m.isOdd() {
			m.number()
			return
		}
		fallthrough
	default:
		m.put(1, fmt.Sprint("global ", firstVector+m.Intn(2)), fmt.Sprint("num ", m.Intn(3)), "bin add")
	}
}

// expression pushes a word.
func (m *maker) expression(levels int) {
	if levels == 0 || m.Intn(5) == 0 {
		m.leaf()
		return
	}
	levels--
	d := m.d
	switch m.Intn(9) {
	case 0:
		m.address()
		m.put(0, "load 0")
	case 1:
		m.address()
		m.put(0, fmt.Sprint("num ", pick(m, 0, 1, 2, 3, 4, -1, -3)), "getb 0")
	case 2:
		m.expression(levels)
		m.put(0, "un "+pick(m, "neg", "not"))
	case 3:
		m.conditional(levels)
	case 4:
		l := m.newLabel()
		m.commands(levels)
		m.expression(levels)
		m.put(-1, fmt.Sprint("result ", l), fmt.Sprint("label ", l), fmt.Sprint("take ", d))
		m.d = d + 1
	case 5:
		m.given(levels)
	case 6:
		m.called(levels)
	default:
		m.expression(levels)
		m.expression(levels)
		op := pick(m, "mul", "add", "sub", "shl", "shr", "and", "or", "xor", "eqv", "eq", "ne", "lt", "le", "gt", "ge")
		if m.isOdd() {
			op = pick(m, "div", "rem")
		}
		m.put(-1, "bin "+op)
	}
}

func (m *maker) leaf() {
	switch m.Intn(8) {
	case 0:
		m.put(1, fmt.Sprint("static ", m.Intn(3)))
	case 1:
		m.put(1, fmt.Sprint("global ", firstNumber+m.Intn(3)))
	case 2:
		m.address()
	case 3, 4, 5:
		if m.d > 2 {
			m.put(1, fmt.Sprint("local ", m.local()))
			return
		}
		fallthrough
	default:
		m.number()
	}
}

func (m *maker) conditional(levels int) {
	d, l, k := m.d, m.newLabel(), m.newLabel()
	m.expression(levels)
	m.put(-1, pick(m, "true ", "false ")+fmt.Sprint(l))
	m.expression(levels)
	m.put(0, fmt.Sprint("jump ", k))
	m.label(l, d)
	m.expression(levels)
	m.label(k, d+1)
}

// given calls a given procedure.
func (m *maker) given(levels int) {
	switch m.Intn(8) {
	case 0:
		m.call(2)
	case 1:
		m.call(5, m.Intn(5)-1)
	case 2:
		m.call(6, 0)
	case 3:
		m.call(7, m.Intn(300), m.Intn(300), 1+m.Intn(9))
	case 4:
		if m.isOdd() {
			m.call(pick(m, 4, 7, 8, 9, 10, 11), m.Intn(9))
			return
		}
		fallthrough
	default:
		d := m.d
		m.stack(d + 2)
		g := pick(m, 3, 3, 3, 9, 9, 9, 9, 10)
		if g == 9 {
			m.put(1, fmt.Sprint("global ", firstCoroutine+m.Intn(3)))
		}
		m.expression(levels)
		m.put(1, fmt.Sprint("global ", g))
		m.put(d+1-m.d, fmt.Sprint("call ", d))
	}
}

// called calls a procedure.
func (m *maker) called(levels int) {
	d, p := m.d, m.Intn(m.procs)
	if p == 0 && m.Intn(4) > 0 {
		p++
	}
	m.stack(d + 2)
	for range m.params[p] {
		m.expression(levels)
	}
	m.put(1, fmt.Sprint("proc ", p+1))
	if m.isOdd() {
		m.lines[len(m.lines)-1] = fmt.Sprint("global ", firstEntry+1+p)
	}
	m.put(d+1-m.d, fmt.Sprint("call ", d))
}

// commands adds some of them; locals that they add are gone behind them.
func (m *maker) commands(levels int) {
	d := m.d
	for range 1 + m.Intn(4) {
		m.command(levels)
	}
	if m.d != d {
		m.stack(d)
	}
}

func (m *maker) command(levels int) {
	if levels == 0 {
		m.leaf()
		m.put(-1, fmt.Sprint("putg ", firstNumber+m.Intn(3)))
		return
	}
	levels--
	d := m.d
	switch m.Intn(14) {
	case 0, 1:
		m.expression(levels)
	case 2:
		m.put(1, fmt.Sprint("addrl ", d+1))
		m.stack(d + 2 + m.Intn(5))
	case 3:
		m.expression(levels)
		m.put(-1, fmt.Sprint("puts ", pick(m, 0, 2)))
	case 4:
		m.expression(levels)
		m.address()
		m.put(-2, "store 0")
	case 5:
		m.expression(levels)
		m.address()
		m.put(-2, fmt.Sprint("num ", pick(m, 0, 1, 2, 3, 4, -1)), "putb 0")
	case 6:
		m.expression(levels)
		if m.d > 3 {
			m.put(-1, fmt.Sprint("putl ", m.local()))
		} else {
			m.stack(d)
		}
	case 7:
		m.loop(levels)
	case 8:
		m.choice(levels)
	case 9:
		m.leave()
	case 10:
		m.create(firstCoroutine + m.Intn(3))
	default:
		m.given(levels)
		m.stack(d)
	}
}

func (m *maker) loop(levels int) {
	i, l := m.d, m.newLabel()
	m.put(1, fmt.Sprint("num ", 1+m.Intn(4)))
	m.label(l, i+1)
	m.commands(levels)
	m.put(0, fmt.Sprint("local ", i), "num 1", "bin sub", fmt.Sprint("putl ", i), fmt.Sprint("local ", i), fmt.Sprint("true ", l))
	m.stack(i)
}

func (m *maker) choice(levels int) {
	d, end, cases := m.d, m.newLabel(), m.Intn(4)
	m.expression(levels)
	m.put(0, "num 3", "bin and", fmt.Sprint("switch ", end, " ", cases))
	m.d = d
	first := m.labels
	for k := range cases {
		m.put(0, fmt.Sprint("case ", pick(m, k, k, 65536+k, 1), " ", m.newLabel()))
	}
	for k := range cases {
		m.label(first+k+1, d)
		m.commands(levels)
	}
	m.label(end, d)
}

// leave returns, or goes on; now and then the link is another one by then.
func (m *maker) leave() {
	d, l := m.d, m.newLabel()
	m.leaf()
	m.put(-1, fmt.Sprint("false ", l))
	if m.isOdd() {
		m.put(0, fmt.Sprint("num ", pick(m, -1, 0, m.Intn(len(m.lines)+20), 8000, 16000)), "addrl 2", fmt.Sprint("num ", 1+m.Intn(2)), "bin sub", "store 0")
	}
	if m.Intn(2) == 0 {
		m.put(0, "back 0")
	} else {
		m.leaf()
		m.put(-1, "return 0")
	}
	m.label(l, d)
}
