package mean

import (
	"bluebell/api"
	"bluebell/word"
)

// apply computes an operator with two operands.
func (m *machine) apply(op int, a, b value) value {
	switch x := a.(type) {
	case number:
		switch y := b.(type) {
		case number:
			return m.compute(op, int(x), int(y))
		case address:
			if op == api.Add {
				return y.moved(int(x))
			}
		}
	case address:
		switch y := b.(type) {
		case number:
			switch op {
			case api.Add:
				return x.moved(int(y))
			case api.Sub:
				return x.moved(-int(y))
			}
		case address:
			if x.in == y.in {
				return m.relate(op, x, y)
			}
		}
	}
	return m.identify(op, a, b)
}

// compute applies an operator to numbers; one with a single operand leaves b aside.
func (m *machine) compute(op, a, b int) number {
	w, err := word.Apply(op, a, b, m.form.Bits)
	if err != api.OK {
		panic(fault(err)) // ErrZero: the form and the operator are as said
	}
	if m.narrow {
		m.narrow, _ = word.Exact(op, a, b, m.form.Bits)
	}
	return number(w)
}

// relate computes an operator with two addresses of one object.
func (m *machine) relate(op int, x, y address) value {
	if op != api.Sub && !isRelation(op) || !x.isBeside() || !y.isBeside() {
		panic(wild())
	}
	m.require(x.isNarrow() && y.isNarrow())
	w, _ := word.Apply(op, x.at, y.at, m.form.Bits) // an object has fewer cells than the greatest word
	return number(w)
}

func isRelation(op int) bool {
	return op >= api.Eq && op <= api.Ge
}

// identify computes Eq and Ne of values that are not both numbers, and not both addresses of one object.
func (m *machine) identify(op int, a, b value) value {
	if op != api.Eq && op != api.Ne || !m.isDefinite(a) || !m.isDefinite(b) {
		panic(wild())
	}
	// Addresses are of two objects here, so that only procedures can be the same.
	if (a == b) == (op == api.Eq) {
		return number(-1)
	}
	return number(0)
}

// isDefinite reports whether a value can be told from values of other kinds and objects.
func (m *machine) isDefinite(v value) bool {
	switch x := v.(type) {
	case number:
		return x == 0
	case address:
		m.require(x.isNarrow())
		return x.isThere()
	case *procedure:
		return true
	}
	return false
}

// holds reports whether a condition is true.
func (m *machine) holds(v value) bool {
	if n, ok := v.(number); ok {
		return n != 0
	}
	if !m.isDefinite(v) {
		panic(wild())
	}
	return true
}
