package parse_test

import (
	"math/rand"
	"strings"
	"testing"

	"bluebell/api"
	"bluebell/lex"
	"bluebell/parse"
)

// P3.3: parentheses stand where they are needed, and nowhere else.
func TestPrintExpr(t *testing.T) {
	for src, want := range map[string]string{
		"((a))": "a", "#ffffffff": "#ffffffff", "'a'": "97", "\"a*n\"": "\"a*n\"", "true": "true", "?": "?", "(a)()": "a ( )", "(f(x))(y)": "f ( x ) ( y )", "f((a),(b->c,d))": "f ( a , b -> c , d )",
		"(a-b)-c": "a - b - c", "a-(b-c)": "a - ( b - c )", "a+(b*c)": "a + b * c", "(a+b)*c": "( a + b ) * c", "a*(b+c)": "a * ( b + c )", "(a*b)/c": "a * b / c", "a*(b/c)": "a * ( b / c )", "(a=b)=c": "( a = b ) = c", "a=(b=c)": "a = ( b = c )", "(a<<b)>>c": "a << b >> c", "a<<(b>>c)": "a << ( b >> c )", "(a xor b)eqv c": "a xor b eqv c", "a xor(b eqv c)": "a xor ( b eqv c )", "a|(b|c)": "a | ( b | c )", "(a&b)&c": "a & b & c", "a&(b&c)": "a & ( b & c )",
		"-(-a)": "- ( - a )", "(-a)*b": "( - a ) * b", "-(a*b)": "- a * b", "-(a+b)": "- ( a + b )", "(-a)+b": "- a + b", "a+(-b)": "a + ( - b )", "a<<(-b)": "a << - b", "a=(-b)": "a = - b", "-(~a)": "- ( ~ a )", "~(-a)": "~ - a", "~(~a)": "~ ~ a", "~(a=b)": "~ a = b", "(~a)=b": "( ~ a ) = b", "a=(~b)": "a = ( ~ b )", "~(a&b)": "~ ( a & b )", "(~a)&(~b)": "~ a & ~ b", "!(-a)": "! ( - a )", "-(!a)": "- ! a",
		"!(!a)": "! ! a", "!(@a)": "! @ a", "(!a)!b": "! a ! b", "!(a!b)": "! ( a ! b )", "a!(!b)": "a ! ! b", "a!(b!c)": "a ! ( b ! c )", "(a!b)%c": "a ! b % c", "(a of b)!c": "a of b ! c", "a of(b of c)": "a of ( b of c )", "!(f(x))": "! f ( x )", "(!f)(x)": "( ! f ) ( x )", "(a!b)(c)": "( a ! b ) ( c )", "a!(b(c))": "a ! b ( c )", "(a+b)!c": "( a + b ) ! c", "(-a)!b": "( - a ) ! b", "(a->b,c)(d)": "( a -> b , c ) ( d )",
		"(a->b,c)->d,e": "( a -> b , c ) -> d , e", "a->(b->c,d),(e->f,g)": "a -> b -> c , d , e -> f , g", "(a->b,c)+d": "( a -> b , c ) + d", "a+(b->c,d)": "a + ( b -> c , d )", "-(a->b,c)": "- ( a -> b , c )", "(a xor b)->c,d": "a xor b -> c , d", "table((a->b,c),(d))": "table ( a -> b , c , d )", "slct((a),(b),(c->d,e))": "slct ( a , b , c -> d , e )", "(valof{})!1": "valof { } ! 1", "(valof{})(1)": "valof { } ( 1 )", "(table(1))(2)": "table ( 1 ) ( 2 )", "(1)(2)": "1 ( 2 )", "(slct(1,2,3))of a": "slct ( 1 , 2 , 3 ) of a",
	} {
		if got, err := parse.PrintExpr(mustExpr(t, src)); got != want || err != api.OK {
			t.Errorf("PrintExpr of %q: %q, error %d; want %q", src, got, err, want)
		}
	}
}

// P3.3
func TestPrintCommand(t *testing.T) {
	for src, want := range map[string]string{
		"": "", "{}": "{ }", "{;}": "{ ; }", "{a();}": "{ a ( ) ; }", "{;a()}": "{ ; a ( ) }", "a:": "a :", "a:b:break": "a : b : break", "(f(x))": "f ( x )", "(a),b:=(c->d,e),f": "a , b := c -> d , e , f", "a->b,c,d:=1,2": "a -> b , c , d := 1 , 2", "(a=b):=1": "a = b := 1",
		"if(a)do": "if a do", "unless a do{}": "unless a do { }", "test a then else": "test a then else", "test a then b()else{}": "test a then b ( ) else { }", "while a do loop": "while a do loop", "until a do": "until a do", "for i=1 to 2 do": "for i = 1 to 2 do", "for i=1 to 2 by 3 do loop": "for i = 1 to 2 by 3 do loop", "switchon a into{case 1:default:}": "switchon a into { case 1 : default : }", "case(a):": "case a :",
		"break repeat repeatwhile a repeatuntil b": "break repeat repeatwhile a repeatuntil b", "goto a": "goto a", "resultis a": "resultis a", "return": "return", "finish": "finish", "endcase": "endcase", "{let a=1;let b,c=d,e;let f=vec 9}": "{ let a = 1 ; let b , c = d , e ; let f = vec 9 }",
	} {
		n, _, _ := parse.Command(src)
		if got, err := parse.PrintCommand(n); got != want || err != api.OK {
			t.Errorf("PrintCommand of %q: %q, error %d; want %q", src, got, err, want)
		}
	}
	for _, n := range []api.Node{{}, {Op: api.ENum}, {Op: api.CLet, N: 1, L: []api.Node{{Op: api.EName, S: "a"}, {Op: api.ENum}}}, {Op: api.CVec, S: "a", L: []api.Node{{Op: api.ENum}}}, {Op: api.DManifest}, {Op: api.CNull, N: 1}} {
		if got, err := parse.PrintCommand(n); got != "" || err != api.ErrForm {
			t.Errorf("PrintCommand of %s: %q, error %d", tell(n), got, err)
		}
	}
}

// P3.3
func TestPrint(t *testing.T) {
	for src, want := range map[string]string{
		"": "\n", "section\"\"": "\n", "section\"a*tb\"": "section \"a*tb\"\n", "static{}": "static { }\n", "section\"s\"static{}": "section \"s\" static { }\n", "section\"s\"manifest{a=1}global{f:1}": "section \"s\" manifest { a = 1 }\nglobal { f : 1 }\n", "manifest{a=1;b=-2}static{c=(a)}global{f:20;g:a->b,c}": "manifest { a = 1 ; b = - 2 }\nstatic { c = a }\nglobal { f : 20 ; g : a -> b , c }\n",
		"let f()=1 and g(a)=a->b,c and h(a,b)be": "let f ( ) = 1\nlet g ( a ) = a -> b , c\nlet h ( a , b ) be\n", "let f()be let g()be{}static{}": "let f ( ) be\nlet g ( ) be { }\nstatic { }\n",
	} {
		s, e, _ := parse.Parse(src)
		if got, err := parse.Print(s); got != want || e != api.OK || err != api.OK {
			t.Errorf("Print of %q: %q, errors %d and %d; want %q", src, got, e, err, want)
		}
	}
}

// sized returns a block that is printed with so many bytes, up to 40041 of them.
func sized(bytes int) api.Node {
	block := api.Node{Op: api.CBlock}
	for range 364 { // with 107 bytes each and 3 between two, and 4 for the braces: 40041
		block.L = append(block.L, api.Node{Op: api.CAssign, N: 1, L: []api.Node{{Op: api.EName, S: "a"}, {Op: api.EStr, S: times("x", 100)}}})
	}
	last := &block.L[363].L[1]
	last.S = last.S[40041-bytes:]
	return block
}

// P3.3: the text's length, and that its error comes after those of Check.
func TestPrintLongTexts(t *testing.T) {
	for _, x := range []struct {
		bytes int
		err   api.Errno
	}{{39999, api.OK}, {40000, api.OK}, {40001, api.ErrLimit}, {40041, api.ErrLimit}} {
		size := map[api.Errno]int{api.OK: x.bytes}[x.err]
		if text, err := parse.PrintCommand(sized(x.bytes)); len(text) != size || err != x.err {
			t.Errorf("%d bytes of a command: %d, error %d", x.bytes, len(text), err)
		}
		valof := api.Node{Op: api.EValof, L: []api.Node{sized(x.bytes - len("valof "))}}
		if text, err := parse.PrintExpr(valof); len(text) != size || err != x.err {
			t.Errorf("%d bytes of an expression: %d, error %d", x.bytes, len(text), err)
		}
		body := api.Node{Op: api.DProc, N: 1, S: "f", L: []api.Node{sized(x.bytes - len("let f ( ) be \n"))}}
		text, err := parse.Print(api.Section{Decls: []api.Node{body}})
		if len(text) != size || err != x.err {
			t.Errorf("%d bytes of a section: %d, error %d", x.bytes, len(text), err)
		}
		if _, e, place := parse.Parse(text); err == api.OK && e != api.OK {
			t.Errorf("%d bytes: Parse's error %d at %d", x.bytes, e, place)
		}
	}
	long := sized(40041)
	for want, n := range map[api.Errno]api.Node{api.ErrForm: {Op: api.CGoto}, api.ErrDeep: {Op: api.CResult, L: []api.Node{deep(40)}}} {
		block := api.Node{Op: api.CBlock, L: append(long.L[:364:364], n)}
		if text, err := parse.PrintCommand(block); text != "" || err != want {
			t.Errorf("a long text and error %d: %d bytes, error %d", want, len(text), err)
		}
	}
}

// P3.3, R4: printing changes nothing, and answers the same again.
func TestPrintChangesNothing(t *testing.T) {
	src := "section\"s\"static{a=1}let f(a,b)be{let v=vec 9;a,b:=b->1,a;test a then x()else return}"
	s, _, _ := parse.Parse(src)
	before := tellSection(s)
	first, _ := parse.Print(s)
	second, _ := parse.Print(s)
	if first != second || tellSection(s) != before || parse.Check(s) != api.OK || tellSection(s) != before {
		t.Errorf("%q, then %q", first, second)
	}
}

// grower makes trees that are valid.
type grower struct {
	*rand.Rand
}

func (g grower) pick(words string) string {
	l := strings.Fields(words)
	return l[g.Intn(len(l))]
}

func (g grower) name() string { return g.pick("a b f g x1 start a_1 ifs " + times("n", 24)) }

func (g grower) names(most int) []api.Node {
	var l []api.Node
	for range g.Intn(most + 1) {
		l = append(l, api.Node{Op: api.EName, S: g.name(), At: g.Int()})
	}
	return l
}

func (g grower) exprs(least, most, levels int) []api.Node {
	var l []api.Node
	for range least + g.Intn(most-least+1) {
		l = append(l, g.expr(levels))
	}
	return l
}

// expr makes an expression of at most so many levels.
func (g grower) expr(levels int) api.Node {
	if levels == 1 || g.Intn(6) == 0 {
		return []api.Node{{Op: api.ENum, N: int(int32(g.Uint32()))}, {Op: api.ENum, N: g.Intn(9)}, {Op: api.EStr, S: g.pick("a *\" // '* if") + "\n"}, {Op: api.ETrue}, {Op: api.EFalse}, {Op: api.EAny}, {Op: api.EName, S: g.name()}}[g.Intn(7)]
	}
	levels--
	switch k := g.Intn(12); {
	case k < 4:
		return api.Node{Op: api.EBin, N: 1 + g.Intn(17), L: g.exprs(2, 2, levels), At: -1}
	case k < 6:
		return api.Node{Op: api.EUn, N: 18 + g.Intn(2), L: g.exprs(1, 1, levels)}
	case k == 6:
		return api.Node{Op: []int{api.ELoad, api.EAddr}[g.Intn(2)], L: g.exprs(1, 1, levels)}
	case k == 7:
		return api.Node{Op: []int{api.ESub, api.EByte, api.ESel}[g.Intn(3)], L: g.exprs(2, 2, levels)}
	case k == 8:
		return api.Node{Op: []int{api.ECond, api.ESlct}[g.Intn(2)], L: g.exprs(3, 3, levels)}
	case k == 9:
		return api.Node{Op: api.ETable, L: g.exprs(1, 4, levels)}
	case k == 10 && levels > 1:
		return api.Node{Op: api.EValof, L: []api.Node{g.block(levels)}}
	}
	return api.Node{Op: api.ECall, L: g.exprs(1, 4, levels)}
}

// block makes one of at least two levels.
func (g grower) block(levels int) api.Node {
	n := api.Node{Op: api.CBlock}
	for range 1 + g.Intn(3) {
		n.L = append(n.L, g.item(levels-1))
	}
	return n
}

func (g grower) item(levels int) api.Node {
	switch {
	case levels > 1 && g.Intn(6) == 0:
		l := append([]api.Node{{Op: api.EName, S: g.name()}}, g.names(2)...)
		return api.Node{Op: api.CLet, N: len(l), L: append(l, g.exprs(len(l), len(l), levels-1)...)}
	case levels > 1 && g.Intn(6) == 0:
		return api.Node{Op: api.CVec, S: g.name(), L: g.exprs(1, 1, levels-1)}
	}
	return g.command(levels)
}

func (g grower) command(levels int) api.Node {
	if levels < 3 || g.Intn(8) == 0 {
		return []api.Node{{Op: api.CNull}, {Op: api.CNull}, g.simple()}[g.Intn(3)]
	}
	e, c := func() api.Node { return g.expr(levels - 1) }, func() api.Node { return g.command(levels - 1) }
	switch g.Intn(9) {
	case 0:
		return api.Node{Op: []int{api.CIf, api.CUnless, api.CWhile, api.CUntil, api.CCase}[g.Intn(5)], L: []api.Node{e(), c()}}
	case 1:
		return api.Node{Op: api.CTest, L: []api.Node{e(), c(), c()}}
	case 2:
		by := g.exprs(0, 1, levels-1)
		return api.Node{Op: api.CFor, N: len(by), S: g.name(), L: append(append([]api.Node{e(), e()}, by...), c())}
	case 3:
		return api.Node{Op: api.CSwitch, L: []api.Node{e(), g.block(levels - 1)}}
	case 4:
		return api.Node{Op: api.CDefault, L: []api.Node{c()}}
	case 5:
		return api.Node{Op: api.CLabel, S: g.name(), L: []api.Node{c()}}
	}
	return g.basic(levels)
}

func (g grower) simple() api.Node {
	return []api.Node{{Op: api.CBreak}, {Op: api.CLoop}, {Op: api.CEndcase}, {Op: api.CReturn}, {Op: api.CFinish}, {Op: api.CGoto, S: g.name()}}[g.Intn(6)]
}

// basic makes what may be repeated.
func (g grower) basic(levels int) api.Node {
	if levels < 3 {
		return g.simple()
	}
	switch g.Intn(6) {
	case 0:
		return api.Node{Op: api.CRepeat, L: []api.Node{g.basic(levels - 1)}}
	case 1:
		return api.Node{Op: []int{api.CRepWh, api.CRepUn}[g.Intn(2)], L: []api.Node{g.basic(levels - 1), g.expr(levels - 1)}}
	case 2:
		count := 1 + g.Intn(3)
		return api.Node{Op: api.CAssign, N: count, L: g.exprs(2*count, 2*count, levels-1)}
	case 3:
		return api.Node{Op: api.CCall, L: []api.Node{{Op: api.ECall, L: g.exprs(1, 3, levels-2)}}}
	case 4:
		return api.Node{Op: api.CResult, L: g.exprs(1, 1, levels-1)}
	}
	return g.block(levels)
}

func (g grower) declaration(levels int) api.Node {
	switch k := g.Intn(6); {
	case k < 2:
		n := api.Node{Op: []int{api.DManifest, api.DStatic, api.DGlobal}[g.Intn(3)], At: 3}
		for _, e := range g.exprs(0, 3, levels-2) {
			n.L = append(n.L, api.Node{Op: api.DConst, S: g.name(), L: []api.Node{e}})
		}
		return n
	case k < 4:
		return api.Node{Op: api.DProc, S: g.name(), L: append(g.names(8), g.expr(levels-1))}
	}
	return api.Node{Op: api.DProc, N: 1, S: g.name(), L: append(g.names(8), g.command(levels-1))}
}

func (g grower) section(levels int) api.Section {
	s := api.Section{Name: []string{"", "", "s", "*\n\""}[g.Intn(4)]}
	for range g.Intn(4) {
		s.Decls = append(s.Decls, g.declaration(levels))
	}
	return s
}

// P3.5: sections come back from what is printed, and so does the text; blanks are single.
func TestSectionsComeBack(t *testing.T) {
	g := grower{rand.New(rand.NewSource(1))}
	for range 3000 {
		s := g.section(3 + g.Intn(9))
		if err := parse.Check(s); err != api.OK {
			t.Fatalf("Check of %s: error %d", tellSection(s), err)
		}
		text, err := parse.Print(s)
		if err == api.ErrLimit {
			continue
		}
		back, e, place := parse.Parse(text)
		again, f := parse.Print(back)
		if err != api.OK || e != api.OK || f != api.OK || !parse.Same(s, back) || again != text {
			t.Fatalf("%s: Print %q, error %d; Parse %s, error %d at %d; Print %q, error %d", tellSection(s), text, err, tellSection(back), e, place, again, f)
		}
		tokens, _, _ := lex.Scan(text)
		words, _ := lex.Text(tokens)
		if strings.ReplaceAll(strings.TrimSuffix(text, "\n"), "\n", " ") != words || strings.Count(text, "\n") != max(1, len(s.Decls)) {
			t.Fatalf("%q is not its tokens with single blanks between them, and a line of each declaration", text)
		}
	}
}

// P3.3, P3.5: expressions and commands come back, too; without a pair of parentheses that is a group they do not.
func TestExpressionsComeBack(t *testing.T) {
	g := grower{rand.New(rand.NewSource(4))}
	groups := 0
	for range 4000 {
		n, c := g.expr(1+g.Intn(6)), g.command(1+g.Intn(8))
		text, err := parse.PrintExpr(n)
		back, e, _ := parse.Expr(text)
		if err != api.OK || e != api.OK || !parse.SameNode(n, back) {
			t.Fatalf("%s: %q, errors %d and %d", tell(n), text, err, e)
		}
		if line, err := parse.PrintCommand(c); err == api.OK {
			if back, e, _ := parse.Command(line); e != api.OK || !parse.SameNode(c, back) {
				t.Fatalf("%s: %q, error %d", tell(c), line, e)
			}
		} else if err != api.ErrLimit {
			t.Fatalf("PrintCommand of %s: error %d", tell(c), err)
		}
		for _, without := range ungrouped(text) {
			groups++
			if other, e, _ := parse.Expr(without); e == api.OK && parse.SameNode(n, other) {
				t.Fatalf("%q is printed, where %q would do", text, without)
			}
		}
	}
	if groups < 3000 {
		t.Errorf("only %d pairs of parentheses", groups)
	}
}

// ungrouped returns a text of tokens and blanks without each of its pairs of parentheses that is no call, table or slct.
func ungrouped(text string) []string {
	tokens, _, _ := lex.Scan(text)
	var list []string
	var opened []int
	for i, token := range tokens {
		switch {
		case token.Kind != api.TSign:
		case token.S == "(":
			opened = append(opened, i)
		case token.S == ")":
			first := opened[len(opened)-1]
			opened = opened[:len(opened)-1]
			if first == 0 || !endsExpr(tokens[first-1]) {
				list = append(list, text[:tokens[first].At]+" "+text[tokens[first].At+1:token.At]+" "+text[token.At+1:])
			}
		}
	}
	return list
}

// endsExpr reports whether a `(` behind a token is no group.
func endsExpr(t api.Token) bool {
	switch t.Kind {
	case api.TName, api.TNumber, api.TString:
		return true
	}
	return strings.Contains(" ) } ? true false table slct ", " "+t.S+" ")
}
