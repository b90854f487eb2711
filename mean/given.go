package mean

import (
	"bluebell/api"
	"bluebell/word"
)

// givenProcedures returns the given procedures by their names, but for start, which is none.
func givenProcedures() map[string]*procedure {
	procs := map[string]*procedure{}
	for _, p := range []procedure{
		{name: "rdch", given: readByte},
		{name: "wrch", params: 1, given: writeByte},
		{name: "stop", params: 1, given: stop},
		{name: "getvec", params: 1, given: newVector},
		{name: "freevec", params: 1, given: freeVector},
		{name: "muldiv", params: 3, given: mulDiv},
		{name: "createco", params: 2, given: coroutine},
		{name: "callco", params: 2, given: coroutine},
		{name: "cowait", params: 1, given: coroutine},
		{name: "deleteco", params: 1, given: coroutine},
	} {
		procs[p.name] = &p
	}
	return procs
}

func readByte(m *machine, _ []value) value {
	if m.input == "" {
		return number(-1)
	}
	b := m.input[0]
	m.input = m.input[1:]
	return number(b)
}

func writeByte(m *machine, args []value) value {
	b := byte(numberOf(args[0]))
	if len(m.output) == api.MaxOutput {
		panic(fault(api.ErrLimit))
	}
	m.output = append(m.output, b)
	return number(0)
}

func stop(m *machine, args []value) value {
	code := numberOf(args[0])
	m.require(isNarrow(code))
	panic(ending{end: api.Stopped, code: code})
}

func newVector(m *machine, args []value) value {
	n := numberOf(args[0])
	if n < 0 || n >= m.heap {
		m.require(false)
		return number(0)
	}
	m.heap -= n + 1
	o := newObject(n + 1)
	o.heap = true
	return address{in: o}
}

func freeVector(_ *machine, args []value) value {
	if n, ok := args[0].(number); ok && n == 0 {
		return number(0)
	}
	a := usable(args[0])
	if !a.in.heap || a.at != 0 {
		panic(wild())
	}
	a.in.end()
	return number(0)
}

func mulDiv(m *machine, args []value) value {
	a, b, c := numberOf(args[0]), numberOf(args[1]), numberOf(args[2])
	q, _, err := word.MulDiv(a, b, c, m.form.Bits)
	if err != api.OK {
		panic(fault(err)) // ErrZero: the form is as said
	}
	m.require(isNarrow(a*b) && isNarrow(a*b/c))
	return number(q)
}

// coroutine is what this layer does not say: what calls of the procedures of coroutines mean.
func coroutine(*machine, []value) value {
	panic(wild())
}
