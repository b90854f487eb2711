package parse_test

import (
	"math"
	"slices"
	"testing"

	"bluebell/api"
	"bluebell/parse"
)

func node(op int, l ...api.Node) api.Node { return api.Node{Op: op, L: l} }
func name(s string) api.Node              { return api.Node{Op: api.EName, S: s} }
func num(n int) api.Node                  { return api.Node{Op: api.ENum, N: n} }

func with(n api.Node, number int, text string) api.Node {
	n.N, n.S = number, text
	return n
}

// asExpr returns an expression with a node in it, if there is one: the node itself, or a valof around it.
func asExpr(n api.Node) (api.Node, bool) {
	switch {
	case n.Op >= api.CAssign && n.Op <= api.CVec:
		return node(api.EValof, node(api.CBlock, n)), true
	case n.Op >= api.DManifest && n.Op <= api.DProc:
		return api.Node{}, false
	}
	return n, true
}

func asSection(n api.Node) api.Section {
	if e, ok := asExpr(n); ok {
		n = with(node(api.DProc, e), 0, "f")
	} else if n.Op == api.DConst {
		n = node(api.DStatic, n)
	}
	return api.Section{Name: "s", Decls: []api.Node{{Op: api.DManifest}, n}}
}

// wantCheck looks at what all calls that check a tree answer.
func wantCheck(t *testing.T, n api.Node, want api.Errno) {
	t.Helper()
	if e, ok := asExpr(n); ok {
		text, err := parse.PrintExpr(e)
		if got := parse.CheckExpr(e); got != want || err != want || (text == "") != (want != api.OK) {
			t.Errorf("%s: CheckExpr %d, PrintExpr %q, %d; want %d", tell(n), got, text, err, want)
		}
	}
	if n.Op >= api.CAssign && n.Op <= api.CNull {
		if text, err := parse.PrintCommand(n); err != want || text != "" && want != api.OK {
			t.Errorf("%s: PrintCommand %q, %d; want %d", tell(n), text, err, want)
		}
	}
	s := asSection(n)
	text, err := parse.Print(s)
	if got := parse.Check(s); got != want || err != want || (text == "") != (want != api.OK) {
		t.Errorf("%s: Check %d, Print %q, %d; want %d", tell(n), got, text, err, want)
	}
}

// samples are valid nodes, at least one of each Op.
func samples() []api.Node {
	a, block, null, call := name("a"), node(api.CBlock, node(api.CNull)), node(api.CNull), node(api.ECall, name("f"))
	return []api.Node{
		num(7), with(node(api.EStr), 0, "s"), node(api.ETrue), node(api.EFalse), node(api.EAny), a, node(api.ECall, a, a), node(api.ESub, a, a), node(api.EByte, a, a), node(api.ELoad, a), node(api.EAddr, a), with(node(api.EBin, a, a), api.Mul, ""), with(node(api.EUn, a), api.Neg, ""), node(api.ECond, a, a, a), node(api.EValof, block), node(api.ETable, a, a), node(api.ESel, a, a), node(api.ESlct, a, a, a),
		with(node(api.CAssign, a, a), 1, ""), node(api.CCall, call), node(api.CIf, a, null), node(api.CUnless, a, null), node(api.CTest, a, null, null), node(api.CWhile, a, null), node(api.CUntil, a, null), node(api.CRepeat, block), node(api.CRepWh, block, a), node(api.CRepUn, block, a), with(node(api.CFor, a, a, null), 0, "i"), with(node(api.CFor, a, a, a, null), 1, "i"), node(api.CSwitch, a, block), node(api.CCase, a, null), node(api.CDefault, null), node(api.CBreak), node(api.CLoop), node(api.CEndcase), node(api.CReturn), node(api.CResult, a), with(node(api.CGoto), 0, "l"), with(node(api.CLabel, null), 0, "l"), node(api.CFinish), block, null, with(node(api.CLet, a, a), 1, ""), with(node(api.CVec, a), 0, "v"),
		node(api.DManifest), node(api.DStatic), node(api.DGlobal), with(node(api.DConst, a), 0, "c"), with(node(api.DProc, a), 0, "f"), with(node(api.DProc, a, null), 1, "f"),
	}
}

// P3.2: valid nodes of each Op, whatever their places are.
func TestCheckOfValidTrees(t *testing.T) {
	for _, n := range samples() {
		wantCheck(t, n, api.OK)
		n.At = math.MinInt
		if n.L == nil {
			n.L = []api.Node{}
		}
		wantCheck(t, n, api.OK)
	}
	if err := parse.Check(api.Section{}); err != api.OK {
		t.Errorf("Check of nothing: %d", err)
	}
	for op := api.Mul; op <= api.Ge; op++ {
		wantCheck(t, with(node(api.EBin, num(1), num(2)), op, ""), api.OK)
	}
	for _, n := range []int{0, 1, -1, math.MaxInt32, math.MinInt32} {
		wantCheck(t, num(n), api.OK)
	}
	for _, s := range []string{"", "\n\t*\"'", times("x", 100), "~ "} {
		wantCheck(t, with(node(api.EStr), 0, s), api.OK)
	}
	wantCheck(t, name(times("n", 24)), api.OK)
}

// P3.2: fields that an Op does not use, and numbers of parts that it does not take.
func TestCheckOfFields(t *testing.T) {
	number := []int{api.ENum, api.EBin, api.EUn, api.CAssign, api.CFor, api.CLet, api.DProc}
	text := []int{api.EStr, api.EName, api.CFor, api.CGoto, api.CLabel, api.CVec, api.DConst, api.DProc}
	list := []int{api.ECall, api.ETable, api.CBlock} // which may have further parts, or fewer
	for _, n := range samples() {
		if !slices.Contains(number, n.Op) {
			for _, wrong := range []int{1, -1, api.Neg, math.MaxInt, math.MinInt} {
				wantCheck(t, with(n, wrong, n.S), api.ErrForm)
			}
		}
		if !slices.Contains(text, n.Op) {
			wantCheck(t, with(n, n.N, "a"), api.ErrForm)
			wantCheck(t, with(n, n.N, "\x00"), api.ErrForm)
		} else if n.Op != api.EStr {
			for _, wrong := range []string{"", "A", "if", "1", "a b", times("a", 25), "a\n"} {
				wantCheck(t, with(n, n.N, wrong), api.ErrForm)
			}
		}
		more, fewer, further := n, n, name("a")
		if len(n.L) > 0 {
			further = n.L[len(n.L)-1]
		}
		more.L = append(slices.Clone(n.L), further)
		if !slices.Contains(list, n.Op) && n.Op < api.DManifest {
			wantCheck(t, more, api.ErrForm)
		}
		if len(n.L) > 0 {
			fewer.L = n.L[1:]
			if !slices.Contains(list, n.Op) || len(n.L) == 1 {
				if n.Op == api.DProc && len(n.L) == 2 { // the body alone is enough
					continue
				}
				wantCheck(t, fewer, api.ErrForm)
			}
		}
	}
	wantCheck(t, with(node(api.DConst, name("a"), name("a")), 0, "c"), api.ErrForm)
	for _, op := range []int{0, -1, 19, 29, 56, 59, 65, 99, math.MaxInt, math.MinInt} {
		wantCheck(t, node(op), api.ErrForm)
		wantCheck(t, node(op, name("a")), api.ErrForm)
	}
}

// P3.2: numbers and texts of nodes.
func TestCheckOfNumbersAndTexts(t *testing.T) {
	for _, n := range []int{math.MaxInt32 + 1, math.MinInt32 - 1, math.MaxInt, math.MinInt, 1 << 32} {
		wantCheck(t, num(n), api.ErrForm)
	}
	for _, s := range []string{"\x00", "\r", "\x7f", "a\xff", times("x", 101), times("x", 1000)} {
		wantCheck(t, with(node(api.EStr), 0, s), api.ErrForm)
		if err := parse.Check(api.Section{Name: s}); err != api.ErrForm {
			t.Errorf("Check of a section %q: %d", s, err)
		}
		if text, err := parse.Print(api.Section{Name: s}); text != "" || err != api.ErrForm {
			t.Errorf("Print of a section %q: %q, %d", s, text, err)
		}
	}
	a := name("a")
	for _, n := range []int{0, -1, api.Neg, api.Not, 20, math.MaxInt} {
		wantCheck(t, with(node(api.EBin, a, a), n, ""), api.ErrForm)
	}
	for _, n := range []int{0, 1, api.Sub, api.Ge, 20, -18} {
		wantCheck(t, with(node(api.EUn, a), n, ""), api.ErrForm)
	}
	for _, n := range []int{2, -1, math.MaxInt, math.MinInt} {
		wantCheck(t, with(node(api.CFor, a, a, a, node(api.CNull)), n, "i"), api.ErrForm)
		wantCheck(t, with(node(api.DProc, a), n, "f"), api.ErrForm)
	}
	wantCheck(t, with(node(api.CFor, a, a, a, node(api.CNull)), 0, "i"), api.ErrForm)
	wantCheck(t, with(node(api.CFor, a, a, node(api.CNull)), 1, "i"), api.ErrForm)
	for _, op := range []int{api.CAssign, api.CLet} {
		for parts := range 8 {
			for _, n := range []int{-1, 0, 1, 2, 3, 4, 100, math.MaxInt, math.MinInt, math.MinInt + 1, 1 << 62} {
				want := api.ErrForm
				if parts == 2*n && n > 0 {
					want = api.OK
				}
				wantCheck(t, with(node(op, slices.Repeat([]api.Node{a}, parts)...), n, ""), want)
			}
		}
	}
}

// takes tells which nodes stand at a place of a kind.
func takes(kind byte, op int) bool {
	switch kind {
	case 'e':
		return op <= api.ESlct
	case 'c':
		return op >= api.CAssign && op <= api.CNull
	case 'i':
		return op >= api.CAssign && op <= api.CVec
	case 'r':
		return slices.Contains([]int{api.CAssign, api.CCall, api.CRepeat, api.CRepWh, api.CRepUn, api.CBreak, api.CLoop, api.CEndcase, api.CReturn, api.CResult, api.CGoto, api.CFinish, api.CBlock}, op)
	case 'b':
		return op == api.CBlock
	case 'f':
		return op == api.ECall
	case 'n':
		return op == api.EName
	case 'k':
		return op == api.DConst
	}
	return op == api.DManifest || op == api.DStatic || op == api.DGlobal || op == api.DProc
}

// P3.2: at each place of each node all other nodes, of which those that the grammar takes are right.
func TestCheckOfPlaces(t *testing.T) {
	a, null := name("a"), node(api.CNull)
	block := node(api.CBlock, null)
	for _, x := range []struct {
		n     api.Node
		kinds string
	}{
		{node(api.ECall, a, a, a), "eee"}, {node(api.ESub, a, a), "ee"}, {node(api.EByte, a, a), "ee"}, {node(api.ESel, a, a), "ee"}, {node(api.ELoad, a), "e"}, {node(api.EAddr, a), "e"}, {with(node(api.EBin, a, a), api.Xor, ""), "ee"}, {with(node(api.EUn, a), api.Not, ""), "e"}, {node(api.ECond, a, a, a), "eee"}, {node(api.EValof, block), "b"}, {node(api.ETable, a, a), "ee"}, {node(api.ESlct, a, a, a), "eee"},
		{with(node(api.CAssign, a, a, a, a), 2, ""), "eeee"}, {node(api.CCall, node(api.ECall, a)), "f"}, {node(api.CIf, a, null), "ec"}, {node(api.CUnless, a, null), "ec"}, {node(api.CTest, a, null, null), "ecc"}, {node(api.CWhile, a, null), "ec"}, {node(api.CUntil, a, null), "ec"}, {node(api.CRepeat, block), "r"}, {node(api.CRepWh, block, a), "re"}, {node(api.CRepUn, block, a), "re"}, {with(node(api.CFor, a, a, null), 0, "i"), "eec"}, {with(node(api.CFor, a, a, a, null), 1, "i"), "eeec"}, {node(api.CSwitch, a, block), "eb"}, {node(api.CCase, a, null), "ec"}, {node(api.CDefault, null), "c"}, {node(api.CResult, a), "e"}, {with(node(api.CLabel, null), 0, "l"), "c"}, {node(api.CBlock, null, null), "ii"}, {with(node(api.CLet, a, a, a, a), 2, ""), "nnee"}, {with(node(api.CVec, a), 0, "v"), "e"},
		{node(api.DManifest, with(node(api.DConst, a), 0, "c")), "k"}, {node(api.DStatic, with(node(api.DConst, a), 0, "c"), with(node(api.DConst, a), 0, "c")), "kk"}, {node(api.DGlobal, with(node(api.DConst, a), 0, "c")), "k"}, {with(node(api.DConst, a), 0, "c"), "e"}, {with(node(api.DProc, a, a, a), 0, "f"), "nne"}, {with(node(api.DProc, a, null), 1, "f"), "nc"},
	} {
		wantCheck(t, x.n, api.OK)
		for i := range x.kinds {
			for _, part := range samples() {
				n := x.n
				n.L = slices.Clone(n.L)
				n.L[i] = part
				want := api.ErrForm
				if takes(x.kinds[i], part.Op) {
					want = api.OK
				}
				wantCheck(t, n, want)
			}
		}
	}
	for _, n := range samples() {
		want := map[bool]api.Errno{true: api.OK, false: api.ErrForm}
		if err := parse.CheckExpr(n); err != want[takes('e', n.Op)] {
			t.Errorf("CheckExpr(%s): %d", tell(n), err)
		}
		if _, err := parse.PrintCommand(n); err != want[takes('c', n.Op)] {
			t.Errorf("PrintCommand(%s): %d", tell(n), err)
		}
		if err := parse.Check(api.Section{Decls: []api.Node{n}}); err != want[takes('d', n.Op)] {
			t.Errorf("Check(%s): %d", tell(n), err)
		}
	}
}

// P3.2: numbers of parts up to their limits.
func TestCheckOfLimits(t *testing.T) {
	l := func(count int) []api.Node { return slices.Repeat([]api.Node{name("a")}, count) }
	for _, x := range []struct {
		most int
		make func(count int) api.Node
	}{
		{8, func(count int) api.Node { return node(api.ECall, l(count+1)...) }}, {100, func(count int) api.Node { return node(api.ETable, l(count)...) }}, {8, func(count int) api.Node { return with(node(api.CAssign, l(2*count)...), count, "") }}, {8, func(count int) api.Node { return with(node(api.CLet, l(2*count)...), count, "") }},
		{8, func(count int) api.Node { return with(node(api.DProc, l(count+1)...), 0, "f") }}, {8, func(count int) api.Node { return with(node(api.DProc, append(l(count), node(api.CNull))...), 1, "f") }}, {8, func(count int) api.Node {
			return node(api.CRepeat, node(api.CCall, node(api.ECall, l(count+1)...)))
		}},
	} {
		for _, count := range []int{1, x.most, x.most + 1, 2 * x.most, 500} {
			want := api.OK
			if count > x.most {
				want = api.ErrLimit
			}
			wantCheck(t, x.make(count), want)
		}
	}
	for _, op := range []int{api.ETable, api.ECall, api.CBlock} {
		wantCheck(t, node(op), api.ErrForm)
	}
}

// balanced returns an expression of few levels with so many nodes, an odd number.
func balanced(nodes int) api.Node {
	if nodes == 1 {
		return name("a")
	}
	left := (nodes - 1) / 2
	left -= 1 - left%2
	return with(node(api.EBin, balanced(left), balanced(nodes-1-left)), api.Add, "")
}

// P3.2: the nodes of a section, and of an expression.
func TestCheckOfNodes(t *testing.T) {
	for _, nodes := range []int{1, 3, 5, 1001, 19997, 19999, 20001, 30001} {
		n := balanced(nodes)
		if size := parse.Size([]api.Node{n}); size != nodes {
			t.Fatalf("%d nodes: %d", nodes, size)
		}
		for _, more := range []int{0, 1} { // nodes around it
			want := api.OK
			if nodes+more > 20000 {
				want = api.ErrLimit
			}
			e := n
			if more == 1 {
				e = node(api.ELoad, n)
			}
			if err := parse.CheckExpr(e); err != want {
				t.Errorf("%d nodes: CheckExpr %d", nodes+more, err)
			}
		}
	}
	half, rest := with(node(api.DProc, balanced(9999)), 0, "f"), with(node(api.DProc, balanced(9997)), 0, "g")
	for _, x := range []struct {
		decls []api.Node
		want  api.Errno
	}{{[]api.Node{half, half}, api.OK}, {[]api.Node{half, half, {Op: api.DStatic}}, api.ErrLimit}, {[]api.Node{half, rest, {Op: api.DStatic}, {Op: api.DStatic}}, api.OK}, {slices.Repeat([]api.Node{{Op: api.DGlobal}}, 20001), api.ErrLimit}, {slices.Repeat([]api.Node{{Op: api.DGlobal}}, 20000), api.OK}} {
		if err := parse.Check(api.Section{Decls: x.decls}); err != x.want {
			t.Errorf("%d nodes: Check %d; want %d", parse.Size(x.decls), err, x.want)
		}
	}
}

// P3.2: levels, and that each error is looked for in the whole tree before the next one.
func TestCheckOfLevels(t *testing.T) {
	for _, levels := range []int{39, 40, 41, 9000} {
		for more := range 2 {
			want := api.OK
			if levels+more > 40 {
				want = api.ErrDeep
			}
			e, s := deep(levels+more), api.Section{Decls: []api.Node{{Op: api.DManifest}, with(node(api.DProc, deep(levels+more-1)), 0, "f")}}
			text, err := parse.PrintExpr(e)
			if got := parse.CheckExpr(e); got != want || err != want || (text == "") != (want != api.OK) {
				t.Errorf("%d levels: CheckExpr %d, PrintExpr %d", levels+more, got, err)
			}
			if got := parse.Check(s); got != want {
				t.Errorf("%d levels: Check %d", levels+more, got)
			}
			command := node(api.CResult, deep(levels+more-1))
			if _, err := parse.PrintCommand(command); err != want {
				t.Errorf("%d levels: PrintCommand %d", levels+more, err)
			}
		}
	}
	bad, many, far := name("A"), node(api.ETable, slices.Repeat([]api.Node{num(1)}, 101)...), deep(41)
	for want, trees := range map[api.Errno][]api.Node{api.ErrForm: {node(api.ETable, far, many, bad), node(api.ETable, bad, many, far), node(api.ESub, many, bad), node(api.ESub, far, bad), node(api.ESub, balanced(20001), bad)}, api.ErrLimit: {node(api.ESub, far, many), node(api.ESub, many, far), node(api.ESub, far, balanced(20001))}} {
		for _, n := range trees {
			if err := parse.CheckExpr(n); err != want {
				t.Errorf("CheckExpr: %d; want %d", err, want)
			}
			if text, err := parse.PrintExpr(n); text != "" || err != want {
				t.Errorf("PrintExpr: %q, %d; want %d", text, err, want)
			}
			s := api.Section{Decls: []api.Node{with(node(api.DProc, n.L[0]), 0, "f"), with(node(api.DProc, n.L[1:]...), 0, "f")}}
			if len(n.L) == 2 {
				if text, err := parse.Print(s); text != "" || err != want || parse.Check(s) != want {
					t.Errorf("Print: %q, %d; want %d", text, err, want)
				}
			}
		}
	}
}
