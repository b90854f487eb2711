package scope

import (
	"slices"

	"bluebell/api"
)

const (
	firstGlobal = 12      // of the numbers that a section may give
	startName   = "start" // the given name that a procedure may have
	startNumber = 1
)

// entry is a node that declares a top name, a DConst or DProc, and the name's kind.
type entry struct {
	api.Node
	kind int
}

// entries returns what a section declares, in order.
func entries(s api.Section) []entry {
	var list []entry
	for _, d := range s.Decls {
		switch d.Op {
		case api.DProc:
			list = append(list, entry{d, Proc})
		case api.DManifest:
			list = appendConsts(list, d.L, Manifest)
		case api.DStatic:
			list = appendConsts(list, d.L, Static)
		case api.DGlobal:
			list = appendConsts(list, d.L, Global)
		}
	}
	return list
}

func appendConsts(list []entry, consts []api.Node, kind int) []entry {
	for _, c := range consts {
		list = append(list, entry{c, kind})
	}
	return list
}

// named is a name as one of a kind.
type named struct {
	name string
	kind int
}

// checkNames tells the first entry whose name may not be there again.
func checkNames(list []entry) fault {
	before := map[named]bool{}
	for _, e := range list {
		if isTaken(e.S, e.kind, before) {
			return fault{api.ErrTwice, e.At}
		}
		before[named{e.S, e.kind}] = true
	}
	return fault{}
}

// isTaken reports whether a name may not be declared as one of a kind, behind those before.
func isTaken(name string, kind int, before map[named]bool) bool {
	if slices.Contains(Given(), name) && (name != startName || kind != Proc) {
		return true
	}
	for _, other := range []int{Manifest, Static, Global, Proc} {
		if before[named{name, other}] && !goTogether(kind, other) {
			return true
		}
	}
	return false
}

// goTogether reports whether a name may be of two kinds: a procedure that is a global.
func goTogether(a, b int) bool {
	return a == Global && b == Proc || a == Proc && b == Global
}

// topsOf returns the top names of entries whose names are as said, or the first fault of their values.
func topsOf(list []entry) ([]Top, fault) {
	r := register{values: map[string]int{}, numbers: map[string]int{startName: startNumber}, used: map[int]bool{}}
	for _, e := range list {
		if f := r.add(e); f.err != api.OK {
			return nil, f
		}
	}
	for i, t := range r.tops {
		if t.Kind == Proc {
			r.tops[i].Global = r.numbers[t.Name] // now those are known that are declared behind it
		}
	}
	return r.tops, fault{}
}

// register keeps what the entries so far declare.
type register struct {
	tops           []Top
	statics, procs int            // how many there are
	values         map[string]int // of manifests
	numbers        map[string]int // of globals that a procedure may be
	used           map[int]bool   // the numbers of the section's globals
}

func (r *register) add(e entry) fault {
	top := Top{Name: e.S, Kind: e.kind}
	if e.kind == Proc {
		r.procs++
		top.N = r.procs
		r.tops = append(r.tops, top)
		return fault{}
	}
	v, f := constant(e.L[0], known(r.values))
	if f.err != api.OK {
		return f
	}
	switch e.kind {
	case Manifest:
		top.N = v
		r.values[e.S] = v
	case Static:
		top.N = r.statics
		r.statics++
	case Global:
		top.N = v
		f = r.number(e, v)
	}
	r.tops = append(r.tops, top)
	return f
}

// number gives a global its number.
func (r *register) number(e entry, n int) fault {
	if n < firstGlobal || n >= api.GlobalSize {
		return fault{api.ErrRange, e.L[0].At}
	}
	if r.used[n] {
		return fault{api.ErrTwice, e.At}
	}
	r.used[n] = true
	r.numbers[e.S] = n
	return fault{}
}
