package scope

import (
	"bluebell/api"
	"bluebell/parse"
	"bluebell/word"
)

const constantBits = 32 // of the words by which constants are computed

// A selector is size + shiftUnit * shift + offsetUnit * offset.
const (
	shiftUnit  = 32
	offsetUnit = 1024
	mostBits   = 16 // of size and shift together
	mostOffset = 255
)

// Eval returns the value of a constant expression in which the manifests among top names are known (P4.3).
func Eval(n api.Node, l []Top) (int, api.Errno) {
	if err := parse.CheckExpr(n); err != api.OK {
		return 0, err
	}
	values := map[string]int{}
	for _, t := range l {
		if _, there := values[t.Name]; t.Kind == Manifest && !there {
			values[t.Name], _ = word.Norm(t.N, constantBits) // no error: words have such bits
		}
	}
	v, f := constant(n, known(values))
	return v, f.err
}

// Selector takes a selector apart (P4.3).
func Selector(n int) (size, shift, offset int, err api.Errno) {
	size, shift, offset = n%shiftUnit, n%offsetUnit/shiftUnit, n/offsetUnit
	if !isSelector(size, shift, offset) { // of a number below 0 one of the three is below 0
		return 0, 0, 0, api.ErrRange
	}
	return size, shift, offset, api.OK
}

func isSelector(size, shift, offset int) bool {
	return size >= 0 && shift >= 0 && size+shift <= mostBits && offset >= 0 && offset <= mostOffset
}

// selector puts a selector together.
func selector(size, shift, offset int) (int, api.Errno) {
	if !isSelector(size, shift, offset) {
		return 0, api.ErrRange
	}
	return size + shiftUnit*shift + offsetUnit*offset, api.OK
}

// meaning tells the value of a name in a constant expression, or why it has none.
type meaning func(name string) (int, api.Errno)

// known is the meaning of names where those of manifests with values alone are constant.
func known(values map[string]int) meaning {
	return func(name string) (int, api.Errno) {
		v, ok := values[name]
		if !ok {
			return 0, api.ErrConst
		}
		return v, api.OK
	}
}

// constant returns the value of an expression, or what is wrong with the first of its parts that is.
func constant(n api.Node, names meaning) (int, fault) {
	switch n.Op {
	case api.ENum:
		return n.N, fault{}
	case api.ETrue:
		return -1, fault{}
	case api.EFalse:
		return 0, fault{}
	case api.EName:
		v, err := names(n.S)
		return valueOf(n, v, err)
	case api.EBin, api.EUn, api.ESlct:
		return operation(n, names)
	case api.ECond:
		return choice(n, names)
	}
	return 0, fault{api.ErrConst, n.At}
}

// valueOf returns a value, or an error as the fault of a node.
func valueOf(n api.Node, v int, err api.Errno) (int, fault) {
	if err != api.OK {
		return 0, fault{err, n.At}
	}
	return v, fault{}
}

// operation computes an operator's word or a selector of all its parts.
func operation(n api.Node, names meaning) (int, fault) {
	var parts [3]int // as many as a selector has
	for i, part := range n.L {
		v, f := constant(part, names)
		if f.err != api.OK {
			return 0, f
		}
		parts[i] = v
	}
	if n.Op == api.ESlct {
		v, err := selector(parts[0], parts[1], parts[2])
		return valueOf(n, v, err)
	}
	v, err := word.Apply(n.N, parts[0], parts[1], constantBits)
	return valueOf(n, v, err)
}

// choice computes the part of an ECond that is taken, and not the other one.
func choice(n api.Node, names meaning) (int, fault) {
	v, f := constant(n.L[0], names)
	switch {
	case f.err != api.OK:
		return 0, f
	case v != 0:
		return constant(n.L[1], names)
	}
	return constant(n.L[2], names)
}
