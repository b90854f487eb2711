package scope

import (
	"slices"

	"bluebell/api"
)

// checkTrees looks at the trees of entries whose names and values are as said.
func checkTrees(list []entry, tops []Top) fault {
	c := checker{scopes: outside(list), values: map[string]int{}}
	for i, e := range list {
		walker(c.hear).node(e.Node, anything)
		if e.kind == Manifest {
			c.values[e.S] = tops[i].N
		}
	}
	return c.first
}

// checker keeps the first fault that it is told on walks.
type checker struct {
	scopes scopes
	values map[string]int // of the manifests that are declared before the place
	first  fault
}

func (c *checker) tell(err api.Errno, at int) {
	if c.first.err == api.OK {
		c.first = fault{err, at}
	}
}

// hear looks at what a walk tells.
func (c *checker) hear(event any) {
	if d, ok := event.(declared); ok {
		c.checkDeclared(d.names)
	}
	if n, ok := c.scopes.follow(event); ok {
		c.checkNode(n)
	}
}

// checkDeclared looks at names that are declared together.
func (c *checker) checkDeclared(names []api.Node) {
	before := map[string]bool{}
	for _, n := range names {
		if before[n.S] {
			c.tell(api.ErrTwice, n.At)
		}
		before[n.S] = true
	}
}

// checkNode applies the chapter's rules to a node, in the order of their numbers; a rule may rely on those before it.
func (c *checker) checkNode(n come) {
	for _, rule := range []func(come) fault{c.meansSomething, c.isOfKind, c.isConstant, c.isPlaced, c.isNew} {
		if f := rule(n); f.err != api.OK {
			c.tell(f.err, f.at)
			return
		}
	}
}

// meansSomething is rule 2.
func (c *checker) meansSomething(n come) fault {
	if n.Op == api.EName && c.scopes.kind(n.S) == None || n.Op == api.CGoto && !c.scopes.hasLabel(n.S) {
		return fault{api.ErrNone, n.At}
	}
	return fault{}
}

// isOfKind is rule 3.
func (c *checker) isOfKind(n come) fault {
	var ops []int
	switch n.as {
	case aLeft:
		ops = []int{api.ESub, api.EByte, api.ELoad, api.ESel}
	case anAddress:
		ops = []int{api.ESub, api.ELoad}
	default:
		return fault{}
	}
	if slices.Contains(ops, n.Op) || n.Op == api.EName && c.scopes.isVariable(n.S) {
		return fault{}
	}
	return fault{api.ErrKind, n.At}
}

// isConstant is rule 4.
func (c *checker) isConstant(n come) fault {
	if !n.as.asksConstant() && n.Op != api.ESlct {
		return fault{}
	}
	v, f := constant(n.Node, c.value)
	if f.err == api.OK && !fits(v, n.as) {
		return fault{api.ErrRange, n.At}
	}
	return f
}

// value tells the value of a name at the place where the walk is.
func (c *checker) value(name string) (int, api.Errno) {
	switch c.scopes.kind(name) {
	case None:
		return 0, api.ErrNone
	case Manifest:
		return known(c.values)(name)
	}
	return 0, api.ErrConst
}

// fits reports whether a constant has a value that its place takes.
func fits(v int, as place) bool {
	switch as {
	case aSelector:
		_, _, _, err := Selector(v)
		return err == api.OK
	case aSize:
		return v >= 0 && v <= api.MaxVec
	case aStep:
		return v != 0
	}
	return true
}

// isPlaced is rule 5.
func (c *checker) isPlaced(n come) fault {
	placed := true
	switch n.Op {
	case api.CBreak, api.CLoop:
		placed = c.scopes.inLoop()
	case api.CEndcase:
		placed = c.scopes.inSwitch()
	case api.CResult:
		placed = c.scopes.inValof()
	case api.CReturn:
		placed = !c.scopes.inValof()
	case api.CCase, api.CDefault:
		placed = n.as == anItem && c.scopes.ownSwitch() != nil
	case api.CLabel:
		placed = n.as == anItem
	}
	if !placed {
		return fault{api.ErrPlace, n.At}
	}
	return fault{}
}

// isNew is rule 6, but for names that are declared.
func (c *checker) isNew(n come) fault {
	again := false
	switch n.Op {
	case api.CLabel:
		labels := c.scopes.innermost().labels
		again = labels[n.S]
		labels[n.S] = true
	case api.CCase:
		again = c.isSecondCase(n.L[0])
	case api.CDefault:
		around := c.scopes.ownSwitch()
		again = around.otherwise
		around.otherwise = true
	}
	if again {
		return fault{api.ErrTwice, n.At}
	}
	return fault{}
}

// isSecondCase reports whether a case before had the same constant. What is wrong with the constant is told when the walk comes to it.
func (c *checker) isSecondCase(n api.Node) bool {
	v, f := constant(n, c.value)
	if f.err != api.OK {
		return false
	}
	cases := c.scopes.ownSwitch().cases
	again := cases[v]
	cases[v] = true
	return again
}
