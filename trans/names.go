package trans

import (
	"slices"

	"bluebell/api"
	"bluebell/parse"
	"bluebell/scope"
)

// names tells what names mean at a place.
type names struct {
	outside map[string]api.Op // what pushes the meanings of given names and of the section's
	locals  []local           // and parameters that are known; the last one of a name counts
}

type local struct {
	name   string
	number int
}

func newNames(tops []scope.Top) names {
	outside := map[string]api.Op{}
	for i, name := range scope.Given() {
		outside[name] = api.Op{Op: api.OGlobal, N: i + 1}
	}
	for _, t := range tops {
		outside[t.Name] = pushing(t)
	}
	return names{outside: outside}
}

// pushing returns the instruction that pushes what a top name means.
func pushing(t scope.Top) api.Op {
	switch {
	case t.Kind == scope.Manifest:
		return api.Op{Op: api.ONum, N: t.N}
	case t.Kind == scope.Static:
		return api.Op{Op: api.OStatic, N: t.N}
	case t.Kind == scope.Global:
		return api.Op{Op: api.OGlobal, N: t.N}
	case t.Global != 0:
		return api.Op{Op: api.OGlobal, N: t.Global}
	}
	return api.Op{Op: api.OProc, N: t.N}
}

// putting returns the Op that pops into the variable that another Op pushes.
func putting(op int) int {
	switch op {
	case api.OLocal:
		return api.OPutL
	case api.OGlobal:
		return api.OPutG
	}
	return api.OPutS
}

// addressing returns the Op that pushes the address of the variable that another Op pushes.
func addressing(op int) int {
	switch op {
	case api.OLocal:
		return api.OAddrL
	case api.OGlobal:
		return api.OAddrG
	}
	return api.OAddrS
}

// meaning returns the instruction that pushes what a name means.
func (n *names) meaning(name string) api.Op {
	for _, l := range slices.Backward(n.locals) {
		if l.name == name {
			return api.Op{Op: api.OLocal, N: l.number}
		}
	}
	return n.outside[name]
}

// know makes a name that of a local.
func (n *names) know(name string, number int) {
	n.locals = append(n.locals, local{name, number})
}

// knowAll makes the names of nodes those of locals, from a number on.
func (n *names) knowAll(nodes []api.Node, first int) {
	for i, node := range nodes {
		n.know(node.S, first+i)
	}
}

// forget makes the locals unknown that were made known since there were as many as count.
func (n *names) forget(count int) {
	n.locals = n.locals[:count]
}

// constant returns the value of a constant expression that scope has passed. Eval is told of the names in it alone, as it looks at all that it is told of.
func (n *names) constant(e api.Node) int {
	var used []scope.Top
	for _, name := range parse.Names(e) {
		if o := n.outside[name]; o.Op == api.ONum {
			used = append(used, scope.Top{Name: name, Kind: scope.Manifest, N: o.N})
		}
	}
	v, _ := scope.Eval(e, used)
	return v
}

// selector returns the parts of a constant expression that is a selector.
func (n *names) selector(e api.Node) (size, shift, offset int) {
	size, shift, offset, _ = scope.Selector(n.constant(e))
	return size, shift, offset
}
