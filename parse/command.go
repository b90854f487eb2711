package parse

import "bluebell/api"

// section reads a section.
func (r *reader) section() api.Section {
	var s api.Section
	if r.at("section") {
		r.next++
		s.Name = r.text()
	}
	for r.token().Kind != api.TEnd {
		behindProc := len(s.Decls) > 0 && s.Decls[len(s.Decls)-1].Op == api.DProc
		if r.at("and") && !behindProc {
			r.refuse()
		}
		d := r.declaration()
		refuseDeep(d, d.At)
		s.Decls = append(s.Decls, d)
	}
	return s
}

// text takes a string that has to be next.
func (r *reader) text() string {
	t := r.token()
	if t.Kind != api.TString {
		r.refuse()
	}
	r.next++
	return t.S
}

func (r *reader) declaration() api.Node {
	switch {
	case r.at("manifest"):
		return r.consts(api.DManifest)
	case r.at("static"):
		return r.consts(api.DStatic)
	case r.at("global"):
		return r.consts(api.DGlobal)
	case !r.at("let") && !r.at("and"):
		r.refuse()
	}
	return r.proc()
}

func (r *reader) consts(op int) api.Node {
	n := api.Node{Op: op, At: r.token().At}
	r.next++
	r.take("{")
	if !r.at("}") {
		n.L = append(n.L, r.constant(constSign(op)))
		for r.at(";") {
			r.next++
			n.L = append(n.L, r.constant(constSign(op)))
		}
	}
	r.take("}")
	return r.finished(n)
}

func (r *reader) constant(sign string) api.Node {
	n := api.Node{Op: api.DConst, At: r.token().At}
	return r.phrase(n, []string{aName, sign, anExpr})
}

// proc reads a procedure, with the `let` or `and` before it.
func (r *reader) proc() api.Node {
	n := api.Node{Op: api.DProc, At: r.token().At}
	r.next++
	n.S = r.name()
	r.take("(")
	if !r.at(")") {
		n.L = r.names()
	}
	r.take(")")
	if r.at("be") {
		n.N = 1
		return r.phrase(n, []string{"be", aCommand})
	}
	return r.phrase(n, []string{"=", anExpr})
}

// names reads names with commas between them.
func (r *reader) names() []api.Node {
	var list []api.Node
	for {
		if t := r.token(); t.Kind == api.TName && len(list) == api.MaxArgs {
			panic(failure{api.ErrLimit, t.At})
		}
		list = append(list, r.named())
		if !r.at(",") {
			return list
		}
		r.next++
	}
}

func (r *reader) block() api.Node {
	n := api.Node{Op: api.CBlock, At: r.token().At}
	r.enter("{")
	n.L = append(n.L, r.item())
	for r.at(";") {
		r.next++
		n.L = append(n.L, r.item())
	}
	r.leave("}")
	return r.finished(n)
}

func (r *reader) item() api.Node {
	if !r.at("let") {
		return r.command()
	}
	place := r.token().At
	if isFixed(r.ahead(2), "=") && isFixed(r.ahead(3), "vec") {
		return r.phrase(api.Node{Op: api.CVec, At: place}, wordsOf(api.CVec))
	}
	r.next++
	names := r.names()
	r.take("=")
	return r.finished(api.Node{Op: api.CLet, N: len(names), L: append(names, r.rights(len(names))...), At: place})
}

// rights reads as many expressions as there are names or lefts before them.
func (r *reader) rights(count int) []api.Node {
	list := []api.Node{r.expression()}
	for len(list) < count {
		r.take(",")
		list = append(list, r.expression())
	}
	if r.at(",") {
		r.refuse()
	}
	return list
}

// command reads a c.
func (r *reader) command() api.Node {
	t := r.token()
	if t.Kind == api.TName && isFixed(r.ahead(1), ":") {
		return r.phrase(api.Node{Op: api.CLabel, At: t.At}, wordsOf(api.CLabel))
	}
	if n, ok := r.led(aCommand); ok {
		return r.repeated(n)
	}
	switch {
	case r.at("{"):
		return r.repeated(r.block())
	case beginsExpr(t):
		return r.repeated(r.assignmentOrCall())
	}
	return r.nothing()
}

// repeated reads what repeats a command, if it is one that may be repeated.
func (r *reader) repeated(n api.Node) api.Node {
	for isBasic(n.Op) {
		op := repeating(r.token())
		if op == 0 {
			break
		}
		n = r.phrase(api.Node{Op: op, L: []api.Node{n}, At: n.At}, wordsOf(op)[1:])
	}
	return n
}

// repeating returns the Op of the repetition that a token begins, or 0.
func repeating(t api.Token) int {
	for _, op := range []int{api.CRepeat, api.CRepWh, api.CRepUn} {
		if isFixed(t, wordsOf(op)[1]) {
			return op
		}
	}
	return 0
}

// assignmentOrCall reads a basic that begins with an expression.
func (r *reader) assignmentOrCall() api.Node {
	first := r.expression()
	switch {
	case r.at(",") || r.at(":="):
		return r.assignment(first)
	case first.Op != api.ECall:
		r.refuse()
	}
	return r.finished(api.Node{Op: api.CCall, L: []api.Node{first}, At: first.At})
}

func (r *reader) assignment(first api.Node) api.Node {
	lefts := []api.Node{first}
	if r.at(",") {
		r.next++
		lefts = r.list(lefts, api.MaxArgs)
	}
	r.take(":=")
	return r.finished(api.Node{Op: api.CAssign, N: len(lefts), L: append(lefts, r.rights(len(lefts))...), At: first.At})
}

// nothing reads the command that has no tokens.
func (r *reader) nothing() api.Node {
	if repeating(r.token()) != 0 {
		r.refuse()
	}
	return r.finished(api.Node{Op: api.CNull, At: r.token().At})
}
