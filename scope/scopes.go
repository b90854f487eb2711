package scope

import (
	"slices"

	"bluebell/api"
)

// What names mean, beside the kinds of a section's names.
const (
	aLocal = Proc + 1 + iota // or a parameter
	aGiven
)

// scope is what a node that a walk has opened adds to what is around it.
type scope struct {
	op        int             // of the node; 0 outside of declarations
	names     map[string]int  // what they mean
	labels    map[string]bool // of a block's items; true are those that the walk has come by
	cases     map[int]bool    // of a switch: the constants that the walk has come by
	otherwise bool            // of a switch: the walk has come by a default
}

// scopes are those that are open, the innermost one last.
type scopes []scope

// outside returns what is known outside of declarations: the given names, and those of a section. A global that is a procedure is a procedure.
func outside(list []entry) scopes {
	given, own := map[string]int{}, map[string]int{}
	for _, name := range Given() {
		given[name] = aGiven
	}
	for _, e := range list {
		own[e.S] = max(own[e.S], e.kind) // Proc is the greatest one
	}
	return scopes{{names: given}, {names: own}}
}

// follow goes along with a walk, and reports the node to which it comes, if it does.
func (s *scopes) follow(event any) (come, bool) {
	switch e := event.(type) {
	case opened:
		*s = append(*s, scope{op: e.Op, names: map[string]int{}, labels: labelsOf(e.Node), cases: map[int]bool{}})
	case declared:
		for _, n := range e.names {
			s.innermost().names[n.S] = aLocal
		}
	case closed:
		*s = (*s)[:len(*s)-1]
	case come:
		return e, true
	}
	return come{}, false
}

func (s scopes) innermost() *scope {
	return &s[len(s)-1]
}

// labelsOf returns the labels of a block; of another node there are none.
func labelsOf(n api.Node) map[string]bool {
	labels := map[string]bool{}
	if n.Op != api.CBlock {
		return labels
	}
	for _, c := range n.L {
		for c.Op == api.CLabel || c.Op == api.CCase || c.Op == api.CDefault {
			if c.Op == api.CLabel {
				labels[c.S] = false
			}
			c = c.L[len(c.L)-1]
		}
	}
	return labels
}

// kind returns what a name means, from the innermost scope outwards.
func (s scopes) kind(name string) int {
	for _, around := range slices.Backward(s) {
		if kind, ok := around.names[name]; ok {
			return kind
		}
	}
	return None
}

// isLocal reports whether a name means a parameter or local.
func (s scopes) isLocal(name string) bool {
	return s.kind(name) == aLocal
}

// isVariable reports whether a name means what may be assigned to.
func (s scopes) isVariable(name string) bool {
	switch s.kind(name) {
	case aLocal, Static, Global:
		return true
	}
	return false
}

// finds goes from the innermost scope outwards up to one that is looked for, but not beyond a valof or procedure, and reports whether there is one.
func (s scopes) finds(isIt func(scope) bool) bool {
	for _, around := range slices.Backward(s) {
		if isIt(around) {
			return true
		}
		if around.op == api.EValof || around.op == api.DProc {
			break
		}
	}
	return false
}

// inLoop, inSwitch and inValof report what a command may leave; hasLabel where it may jump.
func (s scopes) inLoop() bool {
	return s.finds(func(around scope) bool { return isLoop(around.op) })
}

func (s scopes) inSwitch() bool {
	return s.finds(func(around scope) bool { return around.op == api.CSwitch })
}

func (s scopes) inValof() bool {
	return s.finds(func(around scope) bool { return around.op == api.EValof })
}

func (s scopes) hasLabel(name string) bool {
	return s.finds(func(around scope) bool {
		_, ok := around.labels[name]
		return ok
	})
}

// ownSwitch returns the switch whose block is the innermost scope, or nil.
func (s scopes) ownSwitch() *scope {
	if around := &s[len(s)-2]; around.op == api.CSwitch {
		return around
	}
	return nil
}
