package parse

import (
	"slices"

	"bluebell/api"
)

// expression reads an e.
func (r *reader) expression() api.Node {
	first := r.operation(firstLevel)
	if !r.at("->") {
		return first
	}
	r.enter("->")
	yes := r.expression()
	r.take(",")
	no := r.expression()
	r.open--
	return r.finished(api.Node{Op: api.ECond, L: []api.Node{first, yes, no}, At: first.At})
}

// operation reads an expression of a level of operators, or of a higher one.
func (r *reader) operation(least int) api.Node {
	n, level := r.operand(least)
	for {
		o, ok := operatorAt(r.token(), false)
		if !ok || o.level < least || level < o.left {
			return n
		}
		r.next++
		right := r.operation(o.right)
		n = r.finished(api.Node{Op: o.op, N: o.n, L: []api.Node{n, right}, At: n.At})
		level = o.level
	}
}

// operand reads what an operation begins with, and tells its level.
func (r *reader) operand(least int) (api.Node, int) {
	if o, ok := operatorAt(r.token(), true); ok && o.level >= least {
		return r.prefixed(o), o.level
	}
	return r.called(), closedLevel
}

func (r *reader) prefixed(o operator) api.Node {
	n := api.Node{Op: o.op, N: o.n, At: r.token().At}
	if o.nests() {
		r.enter(o.sign)
		n.L = []api.Node{r.operation(o.right)}
		r.open--
	} else {
		r.take(o.sign)
		n.L = []api.Node{r.operation(o.right)}
	}
	return r.finished(n)
}

// called reads an e11 and the arguments behind it.
func (r *reader) called() api.Node {
	n := r.closed()
	for r.at("(") {
		r.enter("(")
		parts := []api.Node{n}
		if !r.at(")") {
			parts = append(parts, r.list(nil, api.MaxArgs)...)
		}
		r.leave(")")
		n = r.finished(api.Node{Op: api.ECall, L: parts, At: n.At})
	}
	return n
}

// closed reads an e11.
func (r *reader) closed() api.Node {
	t := r.token()
	switch t.Kind {
	case api.TNumber:
		r.next++
		return r.finished(api.Node{Op: api.ENum, N: t.N, At: t.At})
	case api.TString:
		r.next++
		return r.finished(api.Node{Op: api.EStr, S: t.S, At: t.At})
	case api.TName:
		return r.named()
	}
	switch {
	case r.at("("):
		r.enter("(")
		n := r.expression()
		r.leave(")")
		return n
	case r.at("table"):
		return r.table()
	}
	n, ok := r.led(anExpr)
	if !ok {
		r.refuse()
	}
	return n
}

// named reads a name that is a node.
func (r *reader) named() api.Node {
	place := r.token().At
	return r.finished(api.Node{Op: api.EName, S: r.name(), At: place})
}

func (r *reader) table() api.Node {
	n := api.Node{Op: api.ETable, At: r.token().At}
	r.take("table")
	r.enter("(")
	n.L = r.list(nil, api.MaxString)
	r.leave(")")
	return r.finished(n)
}

// list goes on with a list of expressions, with commas between them, of which there may be most.
func (r *reader) list(list []api.Node, most int) []api.Node {
	for {
		if !beginsExpr(r.token()) {
			r.refuse()
		}
		if len(list) == most {
			panic(failure{api.ErrLimit, r.token().At})
		}
		list = append(list, r.expression())
		if !r.at(",") {
			return list
		}
		r.next++
	}
}

// beginsExpr reports whether an e can begin with a token.
func beginsExpr(t api.Token) bool {
	switch t.Kind {
	case api.TName, api.TNumber, api.TString:
		return true
	case api.TKey, api.TSign:
		return slices.Contains([]string{"(", "-", "~", "!", "@", "?", "true", "false", "valof", "table", "slct"}, t.S)
	}
	return false
}
