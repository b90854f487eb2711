package scope_test

import (
	"reflect"
	"strconv"
	"strings"
	"testing"

	"bluebell/api"
	"bluebell/parse"
	"bluebell/scope"
)

func times(s string, n int) string { return strings.Repeat(s, n) }

func mustParse(t *testing.T, src string) api.Section {
	t.Helper()
	s, err, place := parse.Parse(src)
	if err != api.OK {
		t.Fatalf("Parse(%.300q): error %d at %d", src, err, place)
	}
	return s
}

// wantFault looks at sources that have an error at the ^.
func wantFault(t *testing.T, want api.Errno, sources ...string) {
	t.Helper()
	for _, src := range sources {
		place := strings.Index(src, "^")
		s := mustParse(t, strings.Replace(src, "^", "", 1))
		if err, at := scope.Check(s); err != want || at != place {
			t.Errorf("Check(%.300q): error %d at %d; want %d at %d", src, err, at, want, place)
		}
		wantOthers(t, s, want)
	}
}

// wantOthers looks at the errors of the other functions that want a section without one.
func wantOthers(t *testing.T, s api.Section, want api.Errno) {
	t.Helper()
	tops, topsErr := scope.Tops(s)
	calls, callsErr := scope.Calls(s)
	if err := scope.Whole(s); err != want || topsErr != want || tops != nil || callsErr != want || calls != nil {
		t.Errorf("%.300v: Whole %d; Tops %v, %d; Calls %v, %d; want error %d", s, err, tops, topsErr, calls, callsErr, want)
	}
}

// wantPass looks at sources that have no error.
func wantPass(t *testing.T, sources ...string) {
	t.Helper()
	for _, src := range sources {
		s := mustParse(t, src)
		if err, at := scope.Check(s); err != api.OK || at != -1 {
			t.Errorf("Check(%.300q): error %d at %d", src, err, at)
		}
	}
}

// P4.1: names of a section.
func TestTopNames(t *testing.T) {
	wantPass(t, "", "section \"s\"", "manifest { } static { } global { }", "manifest { a = 1 ; b = 2 } static { c = 1 } global { d : 20 } let e() = 1")
	wantPass(t, "global { f : 20 ; g : 21 } let g() = 1 and f() = 2", "let f() = 1 global { f : 20 }", "let start() = 1", "let start(a, b) be { }", "let f() = start() let start() = 1")
	first := []string{"manifest { a = 20 }", "static { a = 20 }", "global { a : 20 }", "let a() = 1"}
	second := []string{"manifest { ^a = 21 }", "static { ^a = 21 }", "global { ^a : 21 }", "^let a() be { }"}
	for i, x := range first {
		for k, y := range second {
			if i+k == 5 { // a global and a procedure
				wantPass(t, x+" static { b = 1 } "+strings.Replace(y, "^", "", 1))
			} else {
				wantFault(t, api.ErrTwice, x+" static { b = 1 } "+y)
			}
		}
	}
	wantFault(t, api.ErrTwice, "manifest { a = 1 ; ^a = 1 ; a = 1 }", "let f() = 1 ^and f(x) = 2", "let start() = 1 ^let start() = 1")
	wantFault(t, api.ErrTwice, "global { f : 20 } let f() = 1 ^let f() = 2", "let f() = 1 global { f : 20 ; ^f : 21 }", "let f() = 1 global { f : 20 } manifest { ^f = 1 }", "global { f : 20 } let f() = 1 static { ^f = 1 }")
}

// P4.1: given names.
func TestGivenNamesDeclared(t *testing.T) {
	for _, name := range scope.Given() {
		wantFault(t, api.ErrTwice, "manifest { ^"+name+" = 1 }", "static { x = 1 ; ^"+name+" = 1 }", "let x() = 1 global { ^"+name+" : 20 }", "global { ^"+name+" : 20 } let "+name+"() = 1", "let "+name+"_() = 1 manifest { ^"+name+" = 1 }")
		if name != "start" {
			wantFault(t, api.ErrTwice, "^let "+name+"() = 1", "let f() = 1 ^and "+name+"(a) be { }")
		}
	}
	wantFault(t, api.ErrTwice, "let start() = 1 manifest { ^start = 1 }", "let start() = 1 global { ^start : 20 }")
}

// P4.1: all names come before all values, and these before all else.
func TestOrderOfTops(t *testing.T) {
	wantFault(t, api.ErrTwice, "manifest { a = b ; ^a = 1 }", "let f() = x static { a = 1 / 0 } global { g : 0 } ^let f() = 1", "global { f : 1 } ^let rdch() = 1", "global { f : 20 ; g : 20 ; ^f : 20 }")
	wantFault(t, api.ErrConst, "let f() = x static { a = ^f }", "let f(a, a) be break global { g : ^x }", "manifest { a = ^b } global { g : 1 }")
	wantFault(t, api.ErrZero, "let f() = x manifest { a = ^1 / 0 ; b = a ; c = x }")
	wantFault(t, api.ErrRange, "let f() = x global { g : 20 ; h : ^11 ; i : 20 } static { a = x }", "manifest { a = ^slct(17, 0, 0) ; b = c }")
	wantFault(t, api.ErrTwice, "let f() = x global { g : 20 ; ^h : 20 ; i : 11 } static { a = x }")
	wantFault(t, api.ErrNone, "let f() be ^g() manifest { a = true -> 1, h }", "manifest { a = true -> 1, ^h ; b = false -> i, 2 } let f() be g()")
}

// P4.1: values that are not constant.
func TestTopsThatAreNotConstant(t *testing.T) {
	behind := " } manifest { late = 20 ; s = 1 } static { b = 1 } global { g : 40 } let f() = 1"
	for _, before := range []string{"manifest { a = ", "static { a = ", "global { a : "} {
		for _, e := range []string{
			"^x", "^a", "^b", "^s", "^g", "^f", "^late", "^rdch", "^start", "^?", "^\"20\"", "^f()", "^x(y)", "^1 ! 2", "^x % y", "^! 20", "^@ b", "^valof { resultis 20 }", "^table(20)", "^1 of 2",
			"20 + ^x", "^x + y", "(20 + ^x) / 0", "^y / 0", "- ^x", "~ (20 + ^1 ! x)", "^x -> 1, 2", "true -> ^x, 20", "false -> x, ^y", "slct(^x, y, 40)", "slct(17, ^y, 1 / 0)", "slct(1, 1, ^! 1)", "20 * ^late",
		} {
			wantFault(t, api.ErrConst, before+e+behind)
		}
		wantPass(t, before+"20"+behind, before+"slct(12, 0, 0)"+behind, before+"false -> 1 / 0, 20"+behind, before+"20 -> 30, valof { resultis a + late }"+behind, before+"true -> 30, f() + a"+behind)
	}
	wantPass(t, "manifest { a = 20 ; b = a ; c = a + b } static { s = c } global { g : c }", "manifest { a = 20 } let f() = 1 manifest { b = a }")
	wantFault(t, api.ErrConst, "manifest { a = 20 } static { s = 20 ; r = a + ^s }", "global { g : 20 ; h : ^g + 1 }", "let f() = 1 static { s = ^f }", "manifest { b = ^c } manifest { c = 1 }")
}

// P4.1: divisions by 0.
func TestZeroInTops(t *testing.T) {
	wantFault(t, api.ErrZero, "manifest { a = ^1 / 0 }", "static { a = 1 + ^2 rem (3 - 3) }", "manifest { a = 0 ; b = ~ (^4 / a) + 1 / 0 }", "global { g : ^0 / 0 }", "manifest { a = ^1 / 0 -> 1, 2 }", "manifest { a = ^1 / (2147483647 * 2 + 2) }", "manifest { a = slct(^1 / 0, 99, x) }")
}

// P4.1: numbers of selectors, wherever they stand.
func TestNumbersOfSelectors(t *testing.T) {
	for _, e := range []string{"slct(17, 0, 0)", "slct(0, 17, 0)", "slct(9, 8, 0)", "slct(- 1, 0, 0)", "slct(0, - 1, 0)", "slct(0, 0, - 1)", "slct(0, 0, 256)", "slct(16, 1, 0)", "slct(20, - 4, 1)", "slct(1, 1, 2147483647)"} {
		wantFault(t, api.ErrRange, "manifest { a = 1 + ^"+e+" }", "static { a = true -> 1, ^"+e+" }", "let f() = 1 + ^"+e, "let f(p) = ^"+e+" of p", "let f() be ^"+e+" of f() := x", "let f() be { let v = vec ^"+e+" }", "let f(a) = a -> 1, ^"+e)
	}
	wantPass(t, "manifest { a = slct(16, 0, 255) ; b = slct(0, 16, 0) ; c = slct(8, 8, 1) ; d = slct(0, 0, 0) }", "let f(a) = slct(1, 2, 3) + slct(1, 2, 3) of a")
}

// P4.1: numbers of globals.
func TestNumbersOfGlobals(t *testing.T) {
	for _, n := range []string{"0", "1", "11", "200", "1000", "- 1", "- 12", "#80000000", "11 + 0"} {
		wantFault(t, api.ErrRange, "global { f : 20 ; g : ^"+n+" }")
	}
	wantPass(t, "global { f : 12 ; g : 199 ; h : 100 + 50 }")
	wantFault(t, api.ErrTwice, "global { f : 20 ; ^g : 20 }", "global { f : 20 ; h : 30 } let f() = 1 global { ^g : 29 + 1 }", "manifest { m = 12 } global { f : m ; ^g : m ; h : m }")
}

// P4.1: parse.Check's error comes first, with -1.
func TestErrorsOfParse(t *testing.T) {
	wrong := mustParse(t, "let f() = x").Decls[0]
	deep := api.Node{Op: api.ENum}
	for range api.MaxNest {
		deep = api.Node{Op: api.EUn, N: api.Neg, L: []api.Node{deep}}
	}
	many := api.Node{Op: api.ECall}
	for range api.MaxArgs + 2 {
		many.L = append(many.L, api.Node{Op: api.EName, S: "a"})
	}
	proc := func(body api.Node) api.Node { return api.Node{Op: api.DProc, S: "f", L: []api.Node{body}, At: 7} }
	for _, x := range []struct {
		s    api.Section
		want api.Errno
	}{
		{api.Section{Name: "\x01"}, api.ErrForm},
		{api.Section{Decls: []api.Node{wrong, {}}}, api.ErrForm},
		{api.Section{Decls: []api.Node{{Op: api.DProc, S: "f"}}}, api.ErrForm},
		{api.Section{Decls: []api.Node{{Op: api.DConst, S: "f", L: []api.Node{{Op: api.ETrue}}}}}, api.ErrForm},
		{api.Section{Decls: []api.Node{{Op: api.DManifest, L: []api.Node{{Op: api.DConst, S: "f"}}}}}, api.ErrForm},
		{api.Section{Decls: []api.Node{proc(api.Node{Op: api.EValof})}}, api.ErrForm},
		{api.Section{Decls: []api.Node{proc(api.Node{Op: api.ESlct, L: make([]api.Node, 5)})}}, api.ErrForm},
		{api.Section{Decls: []api.Node{wrong, proc(many)}}, api.ErrLimit},
		{api.Section{Decls: []api.Node{wrong, proc(deep)}}, api.ErrDeep},
	} {
		if err, at := scope.Check(x.s); err != x.want || at != -1 {
			t.Errorf("Check(%.300v): error %d at %d; want %d", x.s, err, at, x.want)
		}
		wantOthers(t, x.s, x.want)
	}
}

// P4.1: places are those of the nodes, whatever they are.
func TestPlacesOfTrees(t *testing.T) {
	s := mustParse(t, "let f() be 1 := 2")
	s.Decls[0].L[0].L[0].At = -5
	if err, at := scope.Check(s); err != api.ErrKind || at != -5 {
		t.Errorf("error %d at %d", err, at)
	}
	s = mustParse(t, "let f(a) be { a := 2 }")
	s.Decls[0].At, s.Decls[0].L[0].At = 1<<62, -1<<62
	if err, at := scope.Check(s); err != api.OK || at != -1 {
		t.Errorf("error %d at %d", err, at)
	}
}

// P4.1
func TestWhole(t *testing.T) {
	for src, want := range map[string]api.Errno{
		"let start() = 1": api.OK, "let start() be { }": api.OK, "let f(a) = a let start() be f(1)": api.OK,
		"": api.ErrStart, "let f() = 1": api.ErrStart, "let start(a) = 1": api.ErrStart, "let start(a, b) be { }": api.ErrStart, "let f() = start()": api.ErrStart, "static { s = 1 }": api.ErrStart,
		"let start() = x": api.ErrNone, "let start(a) = x": api.ErrNone, "let start(a, a) = 1": api.ErrTwice, "manifest { start = 1 }": api.ErrTwice, "let start() = 1 let start(a) = 1": api.ErrTwice,
	} {
		if err := scope.Whole(mustParse(t, src)); err != want {
			t.Errorf("Whole(%q): error %d; want %d", src, err, want)
		}
	}
}

// P4.1: sections with many names, cases and commands.
func TestGreatSections(t *testing.T) {
	procs, cases := "", ""
	for i := range 1400 {
		procs += "let p" + strconv.Itoa(i) + "() be { }\n"
		cases += "case " + strconv.Itoa(i) + " : ; "
	}
	wantPass(t, procs, "let f() be switchon 1 into { "+cases+"}", "let f() be { f()"+times(" ; f()", 3000)+" }")
	wantFault(t, api.ErrTwice, procs+"^let p0() = 1", "let f() be switchon 1 into { "+cases+"^case 1399 : }")
	wantFault(t, api.ErrNone, "let f() be { f()"+times(" ; f()", 3000)+" ; ^x() }")
}

// R3, R4: nothing is changed, and each call answers the same.
func TestNothingIsChanged(t *testing.T) {
	src := "manifest { m = 2 } static { s = m } global { g : 20 } let f(a, b) be { let c, v0 = a, b ; let v = vec m ; l : for i = 1 to 2 do { switchon g(i) into { case m : goto l ; default : } ; x() } }"
	for _, src := range []string{src, strings.Replace(src, "x()", "f(v, c)", 1)} {
		s, before := mustParse(t, src), mustParse(t, src)
		proc := s.Decls[3]
		told := func() []any {
			err, at := scope.Check(s)
			tops, topsErr := scope.Tops(s)
			calls, callsErr := scope.Calls(s)
			return []any{err, at, tops, topsErr, calls, callsErr, scope.Whole(s), scope.Locals(proc), scope.Free(proc)}
		}
		first, second := told(), told()
		if !reflect.DeepEqual(first, second) || !reflect.DeepEqual(s, before) {
			t.Errorf("%q: first %v, then %v; the section is %v", src, first, second, s)
		}
	}
}
