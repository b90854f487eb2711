package parse

import (
	"slices"

	"bluebell/api"
)

// Size returns how many nodes trees have (P3.4).
func Size(l []api.Node) int {
	size := len(l)
	for _, n := range l {
		size += Size(n.L)
	}
	return size
}

// Levels returns how many levels a tree has (P3.4).
func Levels(n api.Node) int {
	most := 0
	for _, part := range n.L {
		most = max(most, Levels(part))
	}
	return most + 1
}

// Same reports whether two sections are the same in all but places (P3.4).
func Same(a, b api.Section) bool {
	return a.Name == b.Name && slices.EqualFunc(a.Decls, b.Decls, SameNode)
}

// SameNode does so for two trees (P3.4).
func SameNode(a, b api.Node) bool {
	return a.Op == b.Op && a.N == b.N && a.S == b.S && slices.EqualFunc(a.L, b.L, SameNode)
}

// Proc returns the first procedure of a section with a name (P3.4).
func Proc(s api.Section, name string) (api.Node, api.Errno) {
	for _, d := range s.Decls {
		if d.Op == api.DProc && d.S == name {
			return copied(d), api.OK
		}
	}
	return api.Node{}, api.ErrNone
}

// copied returns a tree that shares no memory with n.
func copied(n api.Node) api.Node {
	n.L = slices.Clone(n.L)
	for i, part := range n.L {
		n.L[i] = copied(part)
	}
	return n
}

// Names returns the names that stand in a tree as nodes (P3.4).
func Names(n api.Node) []string {
	g := gatherer{seen: map[string]bool{}}
	g.gather(n)
	return g.names
}

// gatherer keeps the names that it has seen, and their order.
type gatherer struct {
	seen  map[string]bool
	names []string
}

func (g *gatherer) gather(n api.Node) {
	if n.Op == api.EName && !g.seen[n.S] {
		g.seen[n.S] = true
		g.names = append(g.names, n.S)
	}
	for _, part := range n.L {
		g.gather(part)
	}
}
