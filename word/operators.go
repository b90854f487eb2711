package word

import "bluebell/api"

const (
	leastNarrow    = -32768
	greatestNarrow = 32767
	mostShift      = 15 // of a shift that is exact
)

// Apply returns the word that an operator gives for words (P1.2).
func Apply(op, a, b, bits int) (int, api.Errno) {
	if err := checkOperator(op, b, bits); err != api.OK {
		return 0, err
	}
	return norm(result(op, a, b, bits), bits), api.OK
}

// Exact reports whether operands and result are words of 16 bits, and the result is that of whole numbers (P1.2).
func Exact(op, a, b, bits int) (bool, api.Errno) {
	if err := checkOperator(op, b, bits); err != api.OK {
		return false, err
	}
	if !exactOperands(op, norm(a, bits), norm(b, bits)) {
		return false, api.OK
	}
	// For such operands the result before it is normed is that of whole numbers; if it is narrow, norming leaves it.
	return narrow(result(op, a, b, bits)), api.OK
}

func checkOperator(op, b, bits int) api.Errno {
	if !validBits(bits) {
		return api.ErrForm
	}
	if op < api.Mul || op > api.Not {
		return api.ErrRange
	}
	if (op == api.Div || op == api.Rem) && norm(b, bits) == 0 {
		return api.ErrZero
	}
	return api.OK
}

func exactOperands(op, a, b int) bool {
	switch op {
	case api.Neg, api.Not:
		return narrow(a)
	case api.Shl, api.Shr:
		return narrow(a) && a >= 0 && b >= 0 && b <= mostShift
	}
	return narrow(a) && narrow(b)
}

func narrow(v int) bool {
	return v >= leastNarrow && v <= greatestNarrow
}

// result applies an operator that was checked; what it returns is not yet normed.
func result(op, a, b, bits int) int {
	return operator(op)(norm(a, bits), norm(b, bits), bits)
}

// operator returns how an operator computes with words; no result of it needs more than 64 bits.
func operator(op int) func(a, b, bits int) int {
	table := [...]func(a, b, bits int) int{
		api.Mul: func(a, b, _ int) int { return a * b },
		api.Div: func(a, b, _ int) int { return a / b },
		api.Rem: func(a, b, _ int) int { return a % b },
		api.Add: func(a, b, _ int) int { return a + b },
		api.Sub: func(a, b, _ int) int { return a - b },
		api.Shl: shiftLeft,
		api.Shr: shiftRight,
		api.And: func(a, b, _ int) int { return a & b },
		api.Or:  func(a, b, _ int) int { return a | b },
		api.Xor: func(a, b, _ int) int { return a ^ b },
		api.Eqv: func(a, b, _ int) int { return ^(a ^ b) },
		api.Eq:  func(a, b, _ int) int { return truth(a == b) },
		api.Ne:  func(a, b, _ int) int { return truth(a != b) },
		api.Lt:  func(a, b, _ int) int { return truth(a < b) },
		api.Le:  func(a, b, _ int) int { return truth(a <= b) },
		api.Gt:  func(a, b, _ int) int { return truth(a > b) },
		api.Ge:  func(a, b, _ int) int { return truth(a >= b) },
		api.Neg: func(a, _, _ int) int { return -a },
		api.Not: func(a, _, _ int) int { return ^a },
	}
	return table[op]
}

func shiftLeft(a, places, bits int) int {
	if places < 0 || places >= bits {
		return 0
	}
	return a << places
}

func shiftRight(a, places, bits int) int {
	if places < 0 || places >= bits {
		return 0
	}
	return unsigned(a, bits) >> places
}

func truth(holds bool) int {
	if holds {
		return -1
	}
	return 0
}
