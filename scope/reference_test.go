package scope_test

import (
	"slices"
	"testing"

	"bluebell/api"
	"bluebell/parse"
	"bluebell/scope"
	"bluebell/word"
)

// reference finds the first error of a section in another way than Check goes: it looks at each node from where it stands, outwards, and keeps nothing in between but the cases and defaults of switches.
type reference struct {
	entries  []refEntry
	spots    []*spot       // of the entry that is looked at
	cases    map[int][]int // by the place of the switch
	defaults map[int]bool
}

// refEntry is a DConst or DProc.
type refEntry struct {
	kind int
	n    api.Node
}

// spot is a node, and which part it is of another one; a name that is declared is no use.
type spot struct {
	n        api.Node
	up       *spot
	part     int
	declared bool
}

func newReference(s api.Section) *reference {
	r := &reference{cases: map[int][]int{}, defaults: map[int]bool{}}
	for _, d := range s.Decls {
		if d.Op == api.DProc {
			r.entries = append(r.entries, refEntry{scope.Proc, d})
			continue
		}
		for _, c := range d.L {
			r.entries = append(r.entries, refEntry{d.Op - api.DManifest + scope.Manifest, c})
		}
	}
	return r
}

// gather adds all nodes in the order in which they are looked at.
func (r *reference) gather(s *spot) {
	r.spots = append(r.spots, s)
	n := s.n
	names, first := 0, 0
	switch n.Op {
	case api.CLet:
		names, first = n.N, n.N
	case api.DProc:
		names = len(n.L) - 1
	}
	for i := range n.L {
		i = (i + first) % len(n.L)
		r.gather(&spot{n.L[i], s, i, i < names})
	}
}

// check returns the first error and its place, or OK and -1.
func (r *reference) check() (api.Errno, int) {
	for i, e := range r.entries {
		if r.isTaken(e, r.entries[:i]) {
			return api.ErrTwice, e.n.At
		}
	}
	for i, e := range r.entries {
		if err, at := r.checkValue(i, e); err != api.OK {
			return err, at
		}
	}
	for i, e := range r.entries {
		r.spots = nil
		r.gather(&spot{n: e.n})
		for _, s := range r.spots {
			if err, at := r.checkSpot(s, i); err != api.OK {
				return err, at
			}
		}
	}
	return api.OK, -1
}

func (r *reference) isTaken(e refEntry, before []refEntry) bool {
	given := slices.Contains(scope.Given(), e.n.S)
	if given && (e.kind != scope.Proc || e.n.S != "start") {
		return true
	}
	return slices.ContainsFunc(before, func(b refEntry) bool {
		return b.n.S == e.n.S && (b.kind == e.kind || b.kind+e.kind != scope.Global+scope.Proc)
	})
}

func (r *reference) checkValue(i int, e refEntry) (api.Errno, int) {
	if e.kind == scope.Proc {
		return api.OK, 0
	}
	v, err, at := r.value(e.n.L[0], nil, i)
	if err == api.ErrNone {
		err = api.ErrConst
	}
	if err != api.OK || e.kind != scope.Global {
		return err, at
	}
	if v < 12 || v > 199 {
		return api.ErrRange, e.n.L[0].At
	}
	for _, b := range r.entries[:i] {
		if b.kind == scope.Global {
			if w, _, _ := r.value(b.n.L[0], nil, i); w == v {
				return api.ErrTwice, e.n.At
			}
		}
	}
	return api.OK, 0
}

// local returns the place of the declaration that a name means at a spot, if it is one of the procedure.
func local(s *spot, name string) (int, bool) {
	for ; s != nil && s.up != nil; s = s.up {
		n, last := s.up.n, len(s.up.n.L)-1
		var names []api.Node
		switch {
		case n.Op == api.CBlock:
			for k := s.part - 1; k >= 0; k-- {
				names = append(names, declaredBy(n.L[k])...)
			}
		case n.Op == api.CFor && s.part == last:
			names = []api.Node{n}
		case n.Op == api.DProc && s.part == last:
			names = n.L[:last]
		}
		for _, d := range names {
			if d.S == name {
				return d.At, true
			}
		}
	}
	return 0, false
}

// declaredBy returns the names that an item declares.
func declaredBy(item api.Node) []api.Node {
	switch item.Op {
	case api.CLet:
		return item.L[:item.N]
	case api.CVec:
		return []api.Node{item}
	}
	return nil
}

// top returns the entries with a name.
func (r *reference) top(s string) []refEntry {
	var list []refEntry
	for _, e := range r.entries {
		if e.n.S == s {
			list = append(list, e)
		}
	}
	return list
}

// value computes a constant at a spot in the entry i.
func (r *reference) value(n api.Node, where *spot, i int) (int, api.Errno, int) {
	if n.Op == api.EName {
		v, err := r.nameValue(n.S, where, i)
		return v, err, n.At
	}
	if n.Op == api.ECond {
		v, err, at := r.value(n.L[0], where, i)
		if err != api.OK {
			return 0, err, at
		}
		if v == 0 {
			return r.value(n.L[2], where, i)
		}
		return r.value(n.L[1], where, i)
	}
	if !slices.Contains([]int{api.ENum, api.ETrue, api.EFalse, api.EBin, api.EUn, api.ESlct}, n.Op) {
		return 0, api.ErrConst, n.At
	}
	v := []int{0, 0, 0}
	for k, part := range n.L {
		var err api.Errno
		var at int
		if v[k], err, at = r.value(part, where, i); err != api.OK {
			return 0, err, at
		}
	}
	switch n.Op {
	case api.ENum:
		return n.N, api.OK, 0
	case api.ETrue:
		return -1, api.OK, 0
	case api.EFalse:
		return 0, api.OK, 0
	case api.ESlct:
		whole := v[0] + v[1]<<5 + v[2]<<10
		if size, shift, offset, err := scope.Selector(whole); err != api.OK || size != v[0] || shift != v[1] || offset != v[2] {
			return 0, api.ErrRange, n.At
		}
		return whole, api.OK, 0
	}
	w, err := word.Apply(n.N, v[0], v[1], 32)
	return w, err, n.At
}

func (r *reference) nameValue(s string, where *spot, i int) (int, api.Errno) {
	if _, ok := local(where, s); ok {
		return 0, api.ErrConst
	}
	for k, e := range r.entries {
		if e.n.S == s && e.kind == scope.Manifest && k < i {
			v, err, _ := r.value(e.n.L[0], nil, k)
			return v, err
		}
	}
	if r.top(s) == nil && !slices.Contains(scope.Given(), s) {
		return 0, api.ErrNone
	}
	return 0, api.ErrConst
}

// isVariable reports whether a name may be assigned to.
func (r *reference) isVariable(s *spot) bool {
	if s.n.Op != api.EName {
		return false
	}
	if _, ok := local(s, s.n.S); ok {
		return true
	}
	l := r.top(s.n.S)
	return len(l) == 1 && (l[0].kind == scope.Static || l[0].kind == scope.Global)
}

// block returns the block of which a spot is an item, or nil.
func block(s *spot) *spot {
	for s.up != nil && (s.up.n.Op == api.CLabel || s.up.n.Op == api.CDefault || s.up.n.Op == api.CCase && s.part == 1) {
		s = s.up
	}
	if s.up == nil || s.up.n.Op != api.CBlock {
		return nil
	}
	return s.up
}

// label returns the place of the first label of a block with a name.
func (r *reference) label(of *spot, name string) (int, bool) {
	for _, s := range r.spots {
		if s.n.Op == api.CLabel && s.n.S == name && block(s) == of {
			return s.n.At, true
		}
	}
	return 0, false
}

// within returns the innermost node around a spot that is looked for, up to a valof, or nil.
func within(s *spot, isIt func(*spot) bool) *spot {
	for s = s.up; s != nil && !isIt(s); s = s.up {
		if s.n.Op == api.EValof {
			return nil
		}
	}
	return s
}

func hasOp(ops ...int) func(*spot) bool {
	return func(s *spot) bool { return slices.Contains(ops, s.n.Op) }
}

func (r *reference) checkSpot(s *spot, i int) (api.Errno, int) {
	switch {
	case r.isNothing(s):
		return api.ErrNone, s.n.At
	case r.isOtherKind(s):
		return api.ErrKind, s.n.At
	}
	if err, at := r.checkConstant(s, i); err != api.OK {
		return err, at
	}
	switch {
	case r.isElsewhere(s):
		return api.ErrPlace, s.n.At
	case r.isAgain(s, i):
		return api.ErrTwice, s.n.At
	}
	return api.OK, 0
}

func (r *reference) isNothing(s *spot) bool {
	switch s.n.Op {
	case api.EName:
		_, isLocal := local(s, s.n.S)
		return !s.declared && !isLocal && r.top(s.n.S) == nil && !slices.Contains(scope.Given(), s.n.S)
	case api.CGoto:
		return within(s, func(around *spot) bool {
			_, ok := r.label(around, s.n.S)
			return ok
		}) == nil
	}
	return false
}

// of returns the node of which a spot is a part.
func (s *spot) of() api.Node {
	if s.up == nil {
		return api.Node{}
	}
	return s.up.n
}

func (r *reference) isOtherKind(s *spot) bool {
	switch of := s.of(); {
	case of.Op == api.CAssign && s.part < of.N:
		return !hasOp(api.ESub, api.EByte, api.ELoad, api.ESel)(s) && !r.isVariable(s)
	case of.Op == api.EAddr:
		return !hasOp(api.ESub, api.ELoad)(s) && !r.isVariable(s)
	}
	return false
}

func (r *reference) checkConstant(s *spot, i int) (api.Errno, int) {
	of := s.of()
	sel, size, by := of.Op == api.ESel && s.part == 0, of.Op == api.CVec, of.Op == api.CFor && s.part == 2 && len(of.L) == 4
	if !sel && !size && !by && of.Op != api.ETable && (of.Op != api.CCase || s.part != 0) && s.n.Op != api.ESlct {
		return api.OK, 0
	}
	v, err, at := r.value(s.n, s, i)
	if err != api.OK {
		return err, at
	}
	_, _, _, selErr := scope.Selector(v)
	if sel && selErr != api.OK || size && (v < 0 || v > 2000) || by && v == 0 {
		return api.ErrRange, s.n.At
	}
	return api.OK, 0
}

func (r *reference) isElsewhere(s *spot) bool {
	inValof := false
	for around := s.up; around != nil; around = around.up {
		inValof = inValof || around.n.Op == api.EValof
	}
	switch s.n.Op {
	case api.CBreak, api.CLoop:
		return within(s, hasOp(api.CWhile, api.CUntil, api.CRepeat, api.CRepWh, api.CRepUn, api.CFor)) == nil
	case api.CEndcase:
		return within(s, hasOp(api.CSwitch)) == nil
	case api.CResult:
		return !inValof
	case api.CReturn:
		return inValof
	case api.CLabel:
		return block(s) == nil
	case api.CCase, api.CDefault:
		return block(s) == nil || block(s).of().Op != api.CSwitch
	}
	return false
}

func (r *reference) isAgain(s *spot, i int) bool {
	switch {
	case s.declared:
		return slices.ContainsFunc(s.of().L[:s.part], func(n api.Node) bool { return n.S == s.n.S })
	case s.n.Op == api.CLabel:
		first, _ := r.label(block(s), s.n.S)
		return first != s.n.At
	case s.n.Op == api.CCase:
		at := block(s).up.n.At
		v, err, _ := r.value(s.n.L[0], s, i)
		again := err == api.OK && slices.Contains(r.cases[at], v)
		if err == api.OK {
			r.cases[at] = append(r.cases[at], v)
		}
		return again
	case s.n.Op == api.CDefault:
		at := block(s).up.n.At
		again := r.defaults[at]
		r.defaults[at] = true
		return again
	}
	return false
}

// P4.1: sections that pass, and what becomes of them by changes, held against the reference.
func TestAnySection(t *testing.T) {
	m := newMaker(4)
	counts := map[api.Errno]int{}
	for range 400 {
		s := m.section()
		next := s
		for changes := range 25 {
			wantErr, wantAt := newReference(next).check()
			err, at := scope.Check(next)
			if err != wantErr || at != wantAt || changes == 0 && err != api.OK {
				t.Fatalf("Check(%q): error %d at %d; want %d at %d; the section is %v", printed(next), err, at, wantErr, wantAt, next)
			}
			counts[err]++
			if err == api.OK {
				s = next
			}
			next = m.changed(s)
		}
	}
	for _, err := range []api.Errno{api.OK, api.ErrRange, api.ErrNone, api.ErrTwice, api.ErrZero, api.ErrKind, api.ErrConst, api.ErrPlace} {
		if counts[err] < 100 {
			t.Errorf("error %d only %d times", err, counts[err])
		}
	}
}

// anyTree makes a tree of any nodes.
func (m *maker) anyTree(levels int) api.Node {
	n := api.Node{Op: m.Intn(67) - 1, N: pick(m, 0, 0, 1, 2, -1, m.Intn(20)), S: pick(m, "", "a", "a", "b", "A"), At: m.Int()}
	if levels > 1 {
		for range m.Intn(5) {
			n.L = append(n.L, m.anyTree(levels-1))
		}
	}
	return n
}

// R1: any trees have a result; those that parse.Check refuses have its error.
func TestAnyTrees(t *testing.T) {
	m := newMaker(3)
	for range 5000 {
		s := m.section()
		var nodes []*api.Node
		gatherNodes(s.Decls, &nodes)
		*pick(m, nodes...) = m.anyTree(1 + m.Intn(4))
		want := parse.Check(s)
		err, at := scope.Check(s)
		if want == api.OK {
			continue
		}
		if err != want || at != -1 {
			t.Fatalf("Check(%v): error %d at %d; want %d", s, err, at, want)
		}
		wantOthers(t, s, want)
		for _, d := range s.Decls {
			l, free := scope.Locals(d), scope.Free(d)
			if parse.Check(api.Section{Decls: []api.Node{d}}) != api.OK && (l != nil || free != nil) {
				t.Fatalf("%v: locals %q, free %q", d, l, free)
			}
		}
		n := *pick(m, nodes...)
		if v, err := scope.Eval(n, nil); err != api.OK && (v != 0 || parse.CheckExpr(n) != api.OK && parse.CheckExpr(n) != err) {
			t.Fatalf("Eval(%v): %d, error %d", n, v, err)
		}
	}
}
