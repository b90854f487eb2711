package scope_test

import (
	"cmp"
	"slices"
	"strings"
	"testing"

	"bluebell/api"
	"bluebell/parse"
	"bluebell/scope"
)

// wantNames looks at the names of the first procedure of a source.
func wantNames(t *testing.T, src, locals, free string) {
	t.Helper()
	p := mustParse(t, src).Decls[0]
	if l := scope.Locals(p); !slices.Equal(l, strings.Fields(locals)) {
		t.Errorf("Locals(%q) = %q; want %q", src, l, locals)
	}
	if l := scope.Free(p); !slices.Equal(l, strings.Fields(free)) {
		t.Errorf("Free(%q) = %q; want %q", src, l, free)
	}
}

// P4.4: names of procedures, whether Check passes these or not.
func TestLocalsAndFree(t *testing.T) {
	wantNames(t, "let f() be { }", "", "")
	wantNames(t, "let f(a, b) = a + b + c", "a b", "c")
	wantNames(t, "let f(a) = f(f, g(a), h, g)", "a", "f g h")
	wantNames(t, "let f() be { let a, b = x, y ; a := b + z }", "a b", "x y z")
	wantNames(t, "let f() be { let a = a ; let b = vec b ; let c, d = d, c }", "a b c d", "a b d c")
	wantNames(t, "let f() be { a() ; let a = 1 ; a() ; { let a = 1 ; let b = 2 ; b() } ; b() }", "a a b", "a b")
	wantNames(t, "let f() be { for i = i to i by i do i() ; i() }", "i", "i")
	wantNames(t, "let f() be { for i = 1 to 2 do { let j = i ; for i = j to i do i(j) } ; j() }", "i j i", "j")
	wantNames(t, "let f() be { for i = x to y do z() ; let v = vec w }", "i v", "x y z w")
	wantNames(t, "let f(a) be { let a = 1 ; let a = 2 ; let a = vec 3 ; for a = 1 to 2 do a() }", "a a a a a", "")
	wantNames(t, "let f(a, a) be { let b, b = a, c }", "a a b b", "c")
	wantNames(t, "let f() be { let a = valof { let b = a ; resultis b + a } ; a() ; b() }", "a b", "a b")
	wantNames(t, "let f() be { let v = vec (1 -> 2, valof { let w = v ; resultis w + x }) ; v(w) }", "v w", "v x w")
	wantNames(t, "let f() be for i = valof { let a = i ; resultis 1 } to a do i(a)", "i a", "i a")
	wantNames(t, "let f() be { l : goto l ; goto k ; k : m : n() }", "", "n")
	wantNames(t, "let f() be switchon a into { let b = c ; case d : b := e ; default : let1() }", "b", "a c d e let1")
	wantNames(t, "let f() be switchon 1 into { case 1 : if a do { let b = 1 } ; b := @ c ; while d do e() ; { f() } repeatuntil g }", "b", "a b c d e f g")
	wantNames(t, "let f() be { x, y ! z := x, s of y ; resultis q }", "", "x y z s q")
	wantNames(t, "let start() be start(rdch, \"text\", table(1, t), slct(u, 1, 2), true, ?, - w)", "", "start rdch t u w")
	wantNames(t, "let f() = 1 let g(a) = b", "", "")
}

// P4.4: of what is no procedure that a section may have there is nothing.
func TestNamesOfOtherNodes(t *testing.T) {
	s := mustParse(t, "manifest { a = b } static { c = d } global { e : g } let f(h) be { let i = j }")
	others := append(s.Decls[:3:3], api.Node{}, s.Decls[0].L[0], s.Decls[3].L[0], s.Decls[3].L[1], s.Decls[3].L[1].L[0], api.Node{Op: api.DProc}, api.Node{Op: api.DProc, S: "f"}, api.Node{Op: api.DProc, S: "f", L: []api.Node{{Op: api.CLet, N: 5}}}, api.Node{Op: api.EName, S: "a"}, api.Node{Op: -1, L: []api.Node{s.Decls[3]}})
	for _, n := range others {
		if l, m := scope.Locals(n), scope.Free(n); l != nil || m != nil {
			t.Errorf("%v: locals %q, free %q", n, l, m)
		}
	}
}

func wantCalls(t *testing.T, src, want string) {
	t.Helper()
	l, err := scope.Calls(mustParse(t, src))
	var words []string
	for _, pair := range l {
		words = append(words, pair[0]+">"+pair[1])
	}
	if err != api.OK || strings.Join(words, " ") != want {
		t.Errorf("Calls(%q) = %q, error %d; want %q", src, words, err, want)
	}
}

// P4.4
func TestCalls(t *testing.T) {
	wantCalls(t, "", "")
	wantCalls(t, "let f() = 1 let g() = 2", "")
	wantCalls(t, "let f() = f() let g() = f(g(g()))", "f>f g>f g>g")
	wantCalls(t, "let f() = h() + g() + h() let g() = f(1) let h() be { }", "f>h f>g g>f")
	wantCalls(t, "let f() = g(f(1)) + f(2)(3) let g() = 1", "f>g f>f")
	wantCalls(t, "let f() = f + @ s + g(f) static { s = 1 } let g(x) = x(f) + wrch(f) + start(1)", "f>g")
	wantCalls(t, "let f(g) be { g() ; f(2) } let g() be { let f = 1 ; f() ; { let g = 1 ; g() } }", "f>f")
	wantCalls(t, "let f() be for g = g() to 2 do g() let g(f) be { { let f = 2 ; f() } ; let g = g() ; g() }", "f>g g>g")
	wantCalls(t, "let f() be { let a = valof { let g = 1 ; resultis g() } ; a() ; g() } let g() be { }", "f>g")
	wantCalls(t, "global { f : 20 ; h : 21 } let f() = g() + h() let g() = f() + start() let start() be g()", "f>g g>f g>start start>g")
	wantCalls(t, "manifest { f = 1 } static { s = 1 } let g() = f() + s() + (g)() + (true -> g, h)() let h() = 1", "g>g")
	wantCalls(t, "let f() = table(1 -> 2, g()) let g() be switchon f() into { case 1 -> 2, h() : { h() } repeatwhile f() } let h() be { }", "f>g g>f g>h")
	wantCalls(t, "manifest { m = 1 -> 2, f() } let f() = 1", "")
	wantCalls(t, "let f() = \"g\"(1) + (@ s)(f) + (! g)() let g() = 1 static { s = 1 }", "")
}

// spotsOf returns the nodes of an entry in the order in which they are looked at.
func spotsOf(n api.Node) []*spot {
	var r reference
	r.gather(&spot{n: n})
	return r.spots
}

// P4.4: names and calls of any procedures, held against the reference, whether they pass or not.
func TestNamesOfAnyProcedures(t *testing.T) {
	m := newMaker(7)
	count := 0
	for range 500 {
		s := m.section()
		for range 4 {
			var calls [][2]string
			for _, d := range s.Decls {
				locals, free, called := namesAndCalls(newReference(s), d)
				if l := scope.Locals(d); !slices.Equal(l, locals) {
					t.Fatalf("Locals of %q in %q: %q; want %q", d.S, printed(s), l, locals)
				}
				if l := scope.Free(d); !slices.Equal(l, free) {
					t.Fatalf("Free of %q in %q: %q; want %q", d.S, printed(s), l, free)
				}
				calls = append(calls, called...)
				count += len(locals) + len(free) + len(called)
			}
			if l, err := scope.Calls(s); err == api.OK && !slices.Equal(l, calls) {
				t.Fatalf("Calls(%q): %q; want %q", printed(s), l, calls)
			}
			s = m.changed(s)
		}
	}
	if count < 10000 {
		t.Errorf("only %d names and calls", count)
	}
}

// namesAndCalls returns by the reference what Locals, Free and Calls tell of a procedure.
func namesAndCalls(r *reference, d api.Node) (locals, free []string, calls [][2]string) {
	if d.Op != api.DProc {
		return nil, nil, nil
	}
	var declared []*spot
	for _, s := range spotsOf(d) {
		_, isLocal := local(s, s.n.S)
		switch {
		case s.declared || s.n.Op == api.CFor || s.n.Op == api.CVec:
			declared = append(declared, s)
		case s.n.Op == api.EName && !isLocal:
			free = append(free, s.n.S)
			isProc := slices.ContainsFunc(r.top(s.n.S), func(e refEntry) bool { return e.kind == scope.Proc })
			if isProc && s.part == 0 && s.of().Op == api.ECall {
				calls = append(calls, [2]string{d.S, s.n.S})
			}
		}
	}
	// Places rise in the order of the trees; there the names of a CLet stand before the rest of it.
	slices.SortFunc(declared, func(a, b *spot) int { return cmp.Compare(a.n.At, b.n.At) })
	for _, s := range declared {
		locals = append(locals, s.n.S)
	}
	return locals, unique(free), unique(calls)
}

// unique leaves out what is there before.
func unique[T comparable](l []T) []T {
	var list []T
	for _, x := range l {
		if !slices.Contains(list, x) {
			list = append(list, x)
		}
	}
	return list
}

// P4.5: a local gets a name that is nowhere else.
func TestRenaming(t *testing.T) {
	m := newMaker(5)
	count := map[bool]int{}
	for range 600 {
		s := m.section()
		for range 6 {
			renamed, ok := m.renamed(s)
			err, at := scope.Check(s)
			if ok && err != api.ErrTwice { // otherwise the name may be what is there twice
				wantSameNames(t, s, renamed, err, at)
				count[err == api.OK]++
			}
			s = m.changed(s)
		}
	}
	if count[true] < 500 || count[false] < 500 {
		t.Errorf("%v", count)
	}
}

func wantSameNames(t *testing.T, s, renamed api.Section, err api.Errno, at int) {
	t.Helper()
	if e, a := scope.Check(renamed); e != err || a != at {
		t.Fatalf("Check(%q): error %d at %d; of %q: %d at %d", printed(renamed), e, a, printed(s), err, at)
	}
	for i, d := range s.Decls {
		if a, b := scope.Free(d), scope.Free(renamed.Decls[i]); !slices.Equal(a, b) {
			t.Fatalf("Free of %q in %q: %q; in %q: %q", d.S, printed(s), a, printed(renamed), b)
		}
	}
}

// renamed returns a section with another name for one of its parameters or locals, if it has any.
func (m *maker) renamed(s api.Section) (api.Section, bool) {
	var places, uses []int
	for _, d := range s.Decls {
		for _, s := range spotsOf(d) {
			if d.Op == api.DProc && (s.declared || s.n.Op == api.CFor || s.n.Op == api.CVec) {
				places = append(places, s.n.At)
			}
		}
	}
	if len(places) == 0 {
		return s, false
	}
	place := pick(m, places...)
	for _, d := range s.Decls {
		for _, s := range spotsOf(d) {
			if at, ok := local(s, s.n.S); ok && at == place && s.n.Op == api.EName && !s.declared {
				uses = append(uses, s.n.At)
			}
		}
	}
	s = numbered(s) // a copy; its places are the same
	var nodes []*api.Node
	gatherNodes(s.Decls, &nodes)
	for _, n := range nodes {
		if n.At == place || slices.Contains(uses, n.At) {
			n.S = "nowhere_else"
		}
	}
	return s, true
}

// P4.6: sections in which all manifests stand before all procedures, with their procedures in another order.
func TestOtherOrderOfProcedures(t *testing.T) {
	m := newMaker(6)
	count := 0
	for range 1500 {
		s := m.section()
		var procs []int
		early := true
		for i, d := range s.Decls {
			early = early && (d.Op != api.DManifest || len(procs) == 0)
			if d.Op == api.DProc {
				procs = append(procs, i)
			}
		}
		if !early {
			continue
		}
		count++
		other := numbered(s)
		for i, k := range m.Perm(len(procs)) {
			other.Decls[procs[i]] = s.Decls[procs[k]]
		}
		if err, at := scope.Check(other); err != api.OK || at != -1 {
			t.Fatalf("Check(%q): error %d at %d; %q passes", printed(other), err, at, printed(s))
		}
	}
	if count < 500 {
		t.Errorf("only %d sections", count)
	}
	wantFault(t, api.ErrConst, "let g() = table(^m) manifest { m = 1 } let f() = table(m)") // there the order matters
}

// P4.6: names that are free in procedures of a section that passes are of the section or given.
func TestFreeNamesAreFound(t *testing.T) {
	m := newMaker(11)
	free := 0
	for range 1000 {
		s := m.section()
		tops, err := scope.Tops(s)
		if err != api.OK {
			t.Fatalf("Tops(%q): error %d", printed(s), err)
		}
		for _, d := range s.Decls {
			for _, name := range scope.Free(d) {
				free++
				if _, ok := scope.Find(tops, name); !ok {
					t.Fatalf("%q: %q is free, but not found", printed(s), name)
				}
			}
		}
	}
	if free < 2000 {
		t.Errorf("only %d names", free)
	}
}

// printed writes a section for a message.
func printed(s api.Section) string {
	text, _ := parse.Print(s)
	return text
}
