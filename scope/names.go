package scope

import (
	"bluebell/api"
	"bluebell/parse"
)

// Locals returns the names that a procedure declares, as often as it declares them (P4.4).
func Locals(p api.Node) []string {
	var names []string
	walkProc(p, func(event any) {
		if n, ok := event.(come); ok {
			for _, d := range declares(n.Node) {
				names = append(names, d.S)
			}
		}
	})
	return names
}

// Free returns the names that a procedure uses and does not declare itself, each once (P4.4).
func Free(p api.Node) []string {
	var names []string
	var s scopes
	before := map[string]bool{}
	walkProc(p, func(event any) {
		n, ok := s.follow(event)
		if ok && n.Op == api.EName && !s.isLocal(n.S) && !before[n.S] {
			before[n.S] = true
			names = append(names, n.S)
		}
	})
	return names
}

// walkProc walks through a procedure; through what no section may have as a procedure it does not.
func walkProc(p api.Node, tell walker) {
	if p.Op == api.DProc && parse.Check(api.Section{Decls: []api.Node{p}}) == api.OK {
		tell.node(p, anything)
	}
}

// Calls returns which procedure of a section calls which one of it by its name, each pair once (P4.4).
func Calls(s api.Section) ([][2]string, api.Errno) {
	list, _, f := examine(s)
	if f.err != api.OK {
		return nil, f.err
	}
	var pairs [][2]string
	around := outside(list)
	before := map[[2]string]bool{}
	for _, e := range list {
		if e.kind != Proc {
			continue
		}
		walker(func(event any) {
			n, ok := around.follow(event)
			if !ok || !around.callsProc(n.Node) {
				return
			}
			pair := [2]string{e.S, n.L[0].S}
			if !before[pair] {
				before[pair] = true
				pairs = append(pairs, pair)
			}
		}).node(e.Node, anything)
	}
	return pairs, api.OK
}

// callsProc reports whether a node calls a procedure of the section by its name.
func (s scopes) callsProc(n api.Node) bool {
	return n.Op == api.ECall && n.L[0].Op == api.EName && s.kind(n.L[0].S) == Proc
}
