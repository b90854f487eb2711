package trans_test

import (
	"strconv"
	"strings"
	"testing"

	"bluebell/api"
	"bluebell/ocode"
	"bluebell/parse"
	"bluebell/trans"
)

// wantError looks for an error of a source, and for no other result with it.
func wantError(t *testing.T, src string, want api.Errno, place int) {
	t.Helper()
	c, err, at := trans.Compile(src)
	if err != want || at != place || !ocode.Same(c, api.Code{}) {
		t.Errorf("Compile(%q): %v, error %d at %d; want error %d at %d", src, c, err, at, want, place)
	}
}

// P7.1: parse.Parse's error, then scope.Check's.
func TestCompileErrors(t *testing.T) {
	wantError(t, "A", api.ErrByte, 0)
	wantError(t, "let f() = \"", api.ErrText, 10)
	wantError(t, "let f() = 2147483648", api.ErrBig, 10)
	wantError(t, strings.Repeat(" ", api.MaxSource+1), api.ErrLimit, 0)
	wantError(t, "let f() = x )", api.ErrToken, 12)
	wantError(t, "let f(a, b, c, d, e, g, h, i, j) = 1", api.ErrLimit, 30)
	wantError(t, "let g() = 1 let f() = "+strings.Repeat("-(", 40)+"1"+strings.Repeat(")", 40), api.ErrDeep, 12)
	wantError(t, "let f() = 1 let f() = 2", api.ErrTwice, 12)
	wantError(t, "static { s = f } let f() = 1", api.ErrConst, 13)
	wantError(t, "static { s = 1 / 0 }", api.ErrZero, 13)
	wantError(t, "global { g : 11 }", api.ErrRange, 13)
	wantError(t, "let f() = 1 + x", api.ErrNone, 14)
	wantError(t, "let f() be f := 1", api.ErrKind, 11)
	wantError(t, "let f() be { goto l }", api.ErrNone, 13)
	wantError(t, "let f() be break", api.ErrPlace, 11)
}

// P7.1: what is no tree, or none that passes.
func TestTranslateErrors(t *testing.T) {
	for _, x := range []struct {
		section api.Section
		want    api.Errno
	}{
		{api.Section{Name: "\x01"}, api.ErrForm},
		{api.Section{Name: strings.Repeat("n", api.MaxString+1)}, api.ErrForm},
		{api.Section{Decls: []api.Node{{}}}, api.ErrForm},
		{api.Section{Decls: []api.Node{{Op: api.DProc, S: "f"}}}, api.ErrForm},
		{api.Section{Decls: []api.Node{{Op: api.DProc, S: "f", L: []api.Node{{Op: api.EName, S: "x"}}}}}, api.ErrNone},
		{api.Section{Decls: []api.Node{{Op: api.DProc, S: "f", L: []api.Node{{Op: api.EStr, S: "\x80"}}}}}, api.ErrForm},
		{api.Section{Decls: []api.Node{{Op: api.DProc, S: "f", N: 1, L: []api.Node{{Op: api.CBreak}}}}}, api.ErrPlace},
	} {
		if c, err := trans.Translate(x.section); err != x.want || !ocode.Same(c, api.Code{}) {
			t.Errorf("Translate(%v): %v, error %d; want error %d", x.section, c, err, x.want)
		}
		if l, err := trans.Count(x.section); err != x.want || l != nil {
			t.Errorf("Count(%v): %v, error %d; want error %d", x.section, l, err, x.want)
		}
		if l, err := trans.Cross(x.section); err != x.want || l != nil {
			t.Errorf("Cross(%v): %v, error %d; want error %d", x.section, l, err, x.want)
		}
	}
}

// wantLimit looks at a source that is within all limits, or beyond one, by all functions.
func wantLimit(t *testing.T, src string, isBeyond bool) {
	t.Helper()
	want := api.OK
	if isBeyond {
		want = api.ErrLimit
	}
	s, err, at := parse.Parse(src)
	if err != api.OK {
		t.Fatalf("Parse(%.200q): error %d at %d", src, err, at)
	}
	c, err, at := trans.Compile(src)
	if err != want || at != 0 || ocode.Check(c) != api.OK || (len(c.Ops) > 0) == isBeyond {
		t.Errorf("Compile(%.200q): %d instructions, error %d at %d; want error %d", src, len(c.Ops), err, at, want)
	}
	wantLimitOf(t, s, want)
}

func wantLimitOf(t *testing.T, s api.Section, want api.Errno) {
	t.Helper()
	c, err := trans.Translate(s)
	counts, e := trans.Count(s)
	cross, x := trans.Cross(s)
	if err != want || e != want || x != want || want != api.OK && (len(c.Ops) > 0 || counts != nil || cross != nil) {
		t.Errorf("%d nodes: errors %d, %d, %d, want %d; %d instructions, counts %d, pairs %d", parse.Size(s.Decls), err, e, x, want, len(c.Ops), counts, cross)
	}
}

// deep returns a procedure with a local, and an item where the depth is d, which is some thousands.
func deep(d int, item string) string {
	return "let f(a) be { let v = vec 2000 ; let w = vec " + strconv.Itoa(d-3-2002-2) + " ; " + item + " }"
}

// P7.1: depths above 4000, wherever they are.
func TestDepthLimit(t *testing.T) {
	for _, x := range []struct {
		item   string
		deeper int // than at the item
	}{
		{"", 0},
		{"goto l ; l :", 0},
		{"a := 1", 1},
		{"a := a + a", 2},
		{"a := a + a * a", 3},
		{"a := ! ! a", 1},
		{"a := \"a\"", 1},
		{"a := table(1)", 1},
		{"v := w", 1},
		{"v := @ w", 1},
		{"v ! 1 := 2", 3},
		{"v % 1 := 2", 3},
		{"rdch()", 3},
		{"wrch(a)", 4},
		{"finish", 4},
		{"let b = a", 1},
		{"let b, c = a, a", 2},
		{"let u = vec 0", 2},
		{"let u = vec 5", 7},
		{"if a do { }", 1},
		{"test a then a := a + a else { }", 2},
		{"a := a -> a, a + a", 2},
		{"a := a + (a -> a, a)", 2},
		{"a := a + valof { }", 2},
		{"a := valof { resultis a + a }", 2},
		{"for i = 1 to 2 do { }", 4},
		{"return ; { let b = a }", 1},
		{"switchon a into { case 1 : }", 1},
		{"switchon 1 into { endcase ; let b = vec 9 ; case 1 : }", 11},
		{"slct(0, 0, 0) of v := 1", 4},
		{"slct(0, 1, 0) of v := 1", 4},
		{"a := slct(1, 1, 1) of v", 2},
	} {
		wantLimit(t, deep(4000-x.deeper, x.item), false)
		wantLimit(t, deep(4001-x.deeper, x.item), true)
	}
}

// filled returns a section with a procedure that has as many instructions.
func filled(instructions int) api.Section {
	var items []api.Node
	finishes := (instructions - 2) / 5
	for range finishes {
		items = append(items, api.Node{Op: api.CFinish})
	}
	for range instructions - 2 - 5*finishes {
		items = append(items, api.Node{Op: api.CReturn})
	}
	return api.Section{Decls: []api.Node{{Op: api.DProc, S: "f", N: 1, L: []api.Node{{Op: api.CBlock, L: items}}}}}
}

// P7.1: ocode.Check's limits.
func TestLimits(t *testing.T) {
	wantLimitOf(t, filled(api.MaxOps), api.OK)
	wantLimitOf(t, filled(api.MaxOps+1), api.ErrLimit)
	list := func(count int, part, between string) string {
		return strings.TrimSuffix(strings.Repeat(part+between, count), between)
	}
	procs := func(count int) string {
		var b strings.Builder
		for i := range count {
			b.WriteString("let f" + strconv.Itoa(i) + "() = 1 ")
		}
		return b.String()
	}
	wantLimit(t, procs(api.MaxProcs), false)
	wantLimit(t, procs(api.MaxProcs+1), true)
	areas := func(count int) string { return "let f() be { " + list(count, "f(\"\")", " ; ") + " }" }
	wantLimit(t, areas(2000), false)
	wantLimit(t, areas(2001), true)
	words := func(statics int) string { // and 7700 in tables, and 49 in a string
		tables := list(77, "f(table("+list(100, "1", ",")+"))", ";")
		return "let f() be { " + tables + " ; f(\"" + strings.Repeat("s", 97) + "\") } static { " + distinct(statics) + " }"
	}
	wantLimit(t, words(api.StaticSize-7749), false)
	wantLimit(t, words(api.StaticSize-7748), true)
}

// distinct returns as many statics.
func distinct(count int) string {
	var l []string
	for i := range count {
		l = append(l, "s"+strconv.Itoa(i)+" = 1")
	}
	return strings.Join(l, " ; ")
}

// P7.1: code has no more than 1000 cases in a switch, though the chapter's of scope has no such limit.
func TestCaseLimit(t *testing.T) {
	cases := func(count int) string {
		var b strings.Builder
		for i := range count {
			b.WriteString("case " + strconv.Itoa(i) + " : ; ")
		}
		return "let f(a) be switchon a into { " + b.String() + "default : }"
	}
	wantLimit(t, cases(1000), false)
	wantLimit(t, cases(1001), true)
}

// P7.2
func TestExpression(t *testing.T) {
	for _, x := range []struct{ src, want string }{
		{"1", "num 1"},
		{" 1 + 2 // three", "num 1,num 2,bin add"},
		{"start", "global 1"},
		{"valof { let a = 1 ; resultis a }", "num 1,local 2,result 1,stack 2,num 0,result 1,label 1,take 2"},
		{"rdch()", "stack 4,global 2,call 2"},
	} {
		c, err, at := trans.Expression(x.src)
		if want := "code \"\",entry 1 1,enter 1 0," + x.want + ",return 0"; err != api.OK || at != 0 || textOf(t, c) != want {
			t.Errorf("Expression(%q): %v, error %d at %d; want %s", x.src, c, err, at, want)
		}
	}
	c, err, at := trans.Expression("f() let f() = \"f\"")
	if want := "code \"\",text \"f\",entry 1 1,enter 1 0,stack 4,proc 2,call 2,return 0,enter 2 0,addrs 0,return 0"; err != api.OK || at != 0 || textOf(t, c) != want {
		t.Errorf("with a procedure behind: %v, error %d at %d", c, err, at)
	}
}

// P7.2: places count from the expression's beginning, and are not below 0.
func TestExpressionErrors(t *testing.T) {
	for _, x := range []struct {
		src  string
		want api.Errno
		at   int
	}{
		{"", api.ErrToken, 0},
		{"  ", api.ErrToken, 2},
		{"x", api.ErrNone, 0},
		{"1 + x", api.ErrNone, 4},
		{"1 + A", api.ErrByte, 4},
		{"1 )", api.ErrToken, 2},
		{"1 2", api.ErrToken, 2},
		{"1 let start() = 2", api.ErrTwice, 2},
		{"table(1, rdch)", api.ErrConst, 9},
		{"table(1 / 0)", api.ErrZero, 6},
		{"f() let f() = x", api.ErrNone, 14},
		{strings.Repeat("-(", 39) + "1" + strings.Repeat(")", 39), api.ErrDeep, 0},
		{strings.Repeat(" ", api.MaxSource) + "1", api.ErrLimit, 0},
		{"valof { let v = vec 2000 ; let w = vec 2000 }", api.ErrLimit, 0},
	} {
		if c, err, at := trans.Expression(x.src); err != x.want || at != x.at || !ocode.Same(c, api.Code{}) {
			t.Errorf("Expression(%.100q): %v, error %d at %d; want error %d at %d", x.src, c, err, at, x.want, x.at)
		}
	}
	if _, err, at := trans.Expression(strings.Repeat("-(", 38) + "1" + strings.Repeat(")", 38)); err != api.OK || at != 0 {
		t.Errorf("40 levels: error %d at %d", err, at)
	}
	const longest = api.MaxSource - len("let start ( ) = ")
	if _, err, at := trans.Expression(strings.Repeat(" ", longest-1) + "1"); err != api.OK || at != 0 {
		t.Errorf("a source of %d bytes: error %d at %d", longest, err, at)
	}
	if _, err, at := trans.Expression(strings.Repeat(" ", longest) + "1"); err != api.ErrLimit || at != 0 {
		t.Errorf("a source of %d bytes: error %d at %d", longest+1, err, at)
	}
}
