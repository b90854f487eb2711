package parse_test

import (
	"strconv"
	"strings"
	"testing"

	"bluebell/api"
	"bluebell/lex"
	"bluebell/parse"
)

func times(s string, n int) string { return strings.Repeat(s, n) }

// opNames are the names of the Ops that told trees use.
func opNames() map[int]string {
	return map[int]string{
		api.ENum: "num", api.EStr: "str", api.ETrue: "true", api.EFalse: "false", api.EAny: "any", api.EName: "name", api.ECall: "call", api.ESub: "sub", api.EByte: "byte", api.ELoad: "load", api.EAddr: "addr", api.EBin: "bin", api.EUn: "un", api.ECond: "cond", api.EValof: "valof", api.ETable: "table", api.ESel: "sel", api.ESlct: "slct",
		api.CAssign: "assign", api.CCall: "ccall", api.CIf: "if", api.CUnless: "unless", api.CTest: "test", api.CWhile: "while", api.CUntil: "until", api.CRepeat: "repeat", api.CRepWh: "repwh", api.CRepUn: "repun", api.CFor: "for", api.CSwitch: "switch", api.CCase: "case", api.CDefault: "default", api.CBreak: "break", api.CLoop: "loop", api.CEndcase: "endcase", api.CReturn: "return", api.CResult: "result", api.CGoto: "goto", api.CLabel: "label", api.CFinish: "finish", api.CBlock: "block", api.CNull: "null", api.CLet: "let", api.CVec: "vec",
		api.DManifest: "manifest", api.DStatic: "static", api.DGlobal: "global", api.DConst: "const", api.DProc: "proc",
	}
}

// tell writes a tree: of each node its place, Op, number and text, and then its parts.
func tell(n api.Node) string {
	s := strconv.Itoa(n.At) + opNames()[n.Op]
	if n.N != 0 {
		s += strconv.Itoa(n.N)
	}
	if n.S != "" {
		s += strconv.Quote(n.S)
	}
	for i, part := range n.L {
		s += []string{" ", "("}[max(0, 1-i)] + tell(part)
	}
	return s + times(")", min(1, len(n.L)))
}

// tellSection writes a section so.
func tellSection(s api.Section) string {
	text := s.Name
	for _, d := range s.Decls {
		text += "|" + tell(d)
	}
	return text
}

func wantExpr(t *testing.T, src, want string) {
	t.Helper()
	n, err, place := parse.Expr(src)
	if got := tell(n); got != want || err != api.OK || place != 0 {
		t.Errorf("Expr(%q) = %s, error %d at %d; want %s", src, got, err, place, want)
	}
}

func wantCommand(t *testing.T, src, want string) {
	t.Helper()
	n, err, place := parse.Command(src)
	if got := tell(n); got != want || err != api.OK || place != 0 {
		t.Errorf("Command(%q) = %s, error %d at %d; want %s", src, got, err, place, want)
	}
}

func wantSection(t *testing.T, src, want string) {
	t.Helper()
	s, err, place := parse.Parse(src)
	if got := tellSection(s); got != want || err != api.OK || place != 0 {
		t.Errorf("Parse(%q) = %s, error %d at %d; want %s", src, got, err, place, want)
	}
}

// P3.1: each kind of expression, with the places of its nodes.
func TestExpressions(t *testing.T) {
	for src, want := range map[string]string{
		" 7": "1num7", "0": "0num", "#80000000": "0num-2147483648", "'a'": "0num97", "\"a*n\"": "0str\"a\\n\"", "\"\"": "0str", "true": "0true", "false": "0false", "?": "0any", " x1 ": "1name\"x1\"",
		"f()": "0call(0name\"f\")", "f(a, b)": "0call(0name\"f\" 2name\"a\" 5name\"b\")", "f(1)()": "0call(0call(0name\"f\" 2num1))", "1(2)": "0call(0num1 2num2)", "\"s\"(2)": "0call(0str\"s\" 4num2)",
		"a!b": "0sub(0name\"a\" 2name\"b\")", "a%b": "0byte(0name\"a\" 2name\"b\")", "a of b": "0sel(0name\"a\" 5name\"b\")", "!a": "0load(1name\"a\")", "@ a": "0addr(2name\"a\")",
		"-a": "0un18(1name\"a\")", "~a": "0un19(1name\"a\")", "- 1": "0un18(2num1)", "~~a": "0un19(1un19(2name\"a\"))", "!@!a": "0load(1addr(2load(3name\"a\")))",
		"a->b,c":        "0cond(0name\"a\" 3name\"b\" 5name\"c\")",
		"valof{}":       "0valof(5block(6null))",
		"valof {a();} ": "0valof(6block(7ccall(7call(7name\"a\")) 11null))",
		"table(1)":      "0table(6num1)", "table( a+1, \"s\")": "0table(7bin4(7name\"a\" 9num1) 12str\"s\")",
		"slct(1,2,3)": "0slct(5num1 7num2 9num3)", "slct(a->b,c,d,e)": "0slct(5cond(5name\"a\" 8name\"b\" 10name\"c\") 12name\"d\" 14name\"e\")",
		"x!0+1": "0bin4(0sub(0name\"x\" 2num) 4num1)",
	} {
		wantExpr(t, src, want)
	}
}

// P3.1: parentheses make no node, and no place counts them.
func TestParentheses(t *testing.T) {
	for src, want := range map[string]string{
		"(a)": "1name\"a\"", "((1))": "2num1", "(a)+b": "1bin4(1name\"a\" 4name\"b\")", "((a+b))*c": "2bin1(2bin4(2name\"a\" 4name\"b\") 8name\"c\")", "(!f)(x)": "1call(1load(2name\"f\") 5name\"x\")",
		"(f)(x)": "1call(1name\"f\" 4name\"x\")", "(a)->(b),(c)": "1cond(1name\"a\" 6name\"b\" 10name\"c\")", "(a)of(b)": "1sel(1name\"a\" 6name\"b\")", "-(a)": "0un18(2name\"a\")", "(-a)": "1un18(2name\"a\")", "((a)!b)%c": "2byte(2sub(2name\"a\" 5name\"b\") 8name\"c\")",
	} {
		wantExpr(t, src, want)
	}
	for src, want := range map[string]string{
		"(f(x))": "1ccall(1call(1name\"f\" 3name\"x\"))", "((f)())repeat": "2repeat(2ccall(2call(2name\"f\")))", "(a):=(b)": "1assign1(1name\"a\" 6name\"b\")", "(a),b:=1,2": "1assign2(1name\"a\" 4name\"b\" 7num1 9num2)",
	} {
		wantCommand(t, src, want)
	}
}

// P3.1: the levels of operators, and that those of one level go from the left; written with all parentheses, the tree is the same.
func TestLevelsOfOperators(t *testing.T) {
	for src, full := range map[string]string{
		"a-b-c": "(a-b)-c", "a-b+c": "(a-b)+c", "a+b-c+d": "((a+b)-c)+d", "a/b*c rem d": "((a/b)*c)rem d", "a!b!c": "(a!b)!c", "a!b%c of d!e": "(((a!b)%c)of d)!e", "a<<b>>c": "(a<<b)>>c", "a xor b eqv c xor d": "((a xor b)eqv c)xor d", "a|b|c": "(a|b)|c", "a&b&c": "(a&b)&c",
		"a xor b|c": "a xor(b|c)", "a|b xor c": "(a|b)xor c", "a|b&c": "a|(b&c)", "a&b|c": "(a&b)|c", "a&b=c": "a&(b=c)", "a=b&c": "(a=b)&c", "a=b<<c": "a=(b<<c)", "a<<b<c": "(a<<b)<c", "a<<b+c": "a<<(b+c)", "a-b>>c": "(a-b)>>c", "a+b*c": "a+(b*c)", "a/b-c": "(a/b)-c", "a*b!c": "a*(b!c)", "a!b*c": "(a!b)*c",
		"-a+b": "(-a)+b", "-a*b": "-(a*b)", "-a!b": "-(a!b)", "-a<<-b": "(-a)<<(-b)", "-a=-b": "(-a)=(-b)", "a=-b-c": "a=((-b)-c)", "~a=b": "~(a=b)", "~a&b": "(~a)&b", "a&~b&c": "(a&(~b))&c", "a|~b=c|d": "(a|(~(b=c)))|d", "~~a<b": "~(~(a<b))", "~-a": "~(-a)",
		"!a!b": "(!a)!b", "!a+b": "(!a)+b", "@a!b": "(@a)!b", "!f(x)": "!(f(x))", "!f(x)(y)": "!((f(x))(y))", "a!f(x)": "a!(f(x))", "a!!b": "a!(!b)", "a!@b%!c": "(a!(@b))%(!c)", "a of!b": "a of(!b)", "-!a": "-(!a)", "a*!b": "a*(!b)",
		"a xor b->c xor d,e xor f": "(a xor b)->(c xor d),(e xor f)", "a->b,c->d,e": "a->b,(c->d,e)", "a->b->c,d,e": "a->(b->c,d),e", "valof{}!1": "(valof{})!1", "table(1)!2": "(table(1))!2", "valof{}(x)": "(valof{})(x)",
		"a=b": "(a)=(b)", "a~=b": "(a)~=(b)", "a<b": "(a)<(b)", "a<=b": "(a)<=(b)", "a>b": "(a)>(b)", "a>=b": "(a)>=(b)",
	} {
		a, e, _ := parse.Expr(src)
		b, f, _ := parse.Expr(full)
		if e != api.OK || f != api.OK || !parse.SameNode(a, b) {
			t.Errorf("%q and %q: %s and %s, errors %d and %d", src, full, tell(a), tell(b), e, f)
		}
	}
	for sign, n := range map[string]int{"*": api.Mul, "/": api.Div, "rem": api.Rem, "+": api.Add, "-": api.Sub, "<<": api.Shl, ">>": api.Shr, "&": api.And, "|": api.Or, "xor": api.Xor, "eqv": api.Eqv, "=": api.Eq, "~=": api.Ne, "<": api.Lt, "<=": api.Le, ">": api.Gt, ">=": api.Ge} {
		wantExpr(t, "1 "+sign+" 2", "0bin"+strconv.Itoa(n)+"(0num1 "+strconv.Itoa(3+len(sign))+"num2)")
	}
}

// P3.1: each kind of command, with the places of its nodes.
func TestCommands(t *testing.T) {
	for src, want := range map[string]string{
		"": "0null", " //c\n ": "6null", "a:=1": "0assign1(0name\"a\" 3num1)", "a!1, !b := c, 2": "0assign2(0sub(0name\"a\" 2num1) 5load(6name\"b\") 11name\"c\" 14num2)", "1:=2": "0assign1(0num1 3num2)", "a->b,c,d:=1,2": "0assign2(0cond(0name\"a\" 3name\"b\" 5name\"c\") 7name\"d\" 10num1 12num2)",
		"f(x)": "0ccall(0call(0name\"f\" 2name\"x\"))", "f(x)(y)": "0ccall(0call(0call(0name\"f\" 2name\"x\") 5name\"y\"))", "valof{}()": "0ccall(0call(0valof(5block(6null))))",
		"if a do": "0if(3name\"a\" 7null)", "if a do break": "0if(3name\"a\" 8break)", "unless a do loop": "0unless(7name\"a\" 12loop)", "test a then else": "0test(5name\"a\" 12null 16null)", "test a then return else finish": "0test(5name\"a\" 12return 24finish)",
		"while a do endcase": "0while(6name\"a\" 11endcase)", "until a do{}": "0until(6name\"a\" 10block(11null))", "for i=1 to n do": "0for\"i\"(6num1 11name\"n\" 15null)", "for i=1 to n by-1 do loop": "0for1\"i\"(6num1 11name\"n\" 15un18(16num1) 21loop)",
		"switchon a into{case 1:case 2:break;default:}": "0switch(9name\"a\" 15block(16case(21num1 23case(28num2 30break)) 36default(44null)))", "case x:": "0case(5name\"x\" 7null)", "default:a:": "0default(8label\"a\"(10null))",
		"break": "0break", "loop": "0loop", "endcase": "0endcase", "return": "0return", "finish": "0finish", "resultis 1": "0result(9num1)", "goto a": "0goto\"a\"", "a:": "0label\"a\"(2null)", "a : b : c()": "0label\"a\"(4label\"b\"(8ccall(8call(8name\"c\"))))",
		"{}": "0block(1null)", "{;}": "0block(1null 2null)", "{{}}": "0block(1block(2null))", "{a:;b:}": "0block(1label\"a\"(3null) 4label\"b\"(6null))",
		"{let a=1}": "0block(1let1(5name\"a\" 7num1))", "{let a,b=1,2;}": "0block(1let2(5name\"a\" 7name\"b\" 9num1 11num2) 13null)", "{let v=vec 9}": "0block(1vec\"v\"(11num9))", "{let a=b;let c=vec a+1;return}": "0block(1let1(5name\"a\" 7name\"b\") 9vec\"c\"(19bin4(19name\"a\" 21num1)) 23return)",
		"if a do test b then x() else y()": "0if(3name\"a\" 8test(13name\"b\" 20ccall(20call(20name\"x\")) 29ccall(29call(29name\"y\"))))", "test a then if b do else": "0test(5name\"a\" 12if(15name\"b\" 20null) 24null)", "test a then test b then else else": "0test(5name\"a\" 12test(17name\"b\" 24null 29null) 33null)",
	} {
		wantCommand(t, src, want)
	}
}

// P3.1: what repeats stands behind basics, and each further one is around those before.
func TestRepeats(t *testing.T) {
	for src, want := range map[string]string{
		"f() repeat": "0repeat(0ccall(0call(0name\"f\")))", "f(x)repeatwhile y": "0repwh(0ccall(0call(0name\"f\" 2name\"x\")) 16name\"y\")", "{}repeatuntil a=b": "0repun(0block(1null) 14bin12(14name\"a\" 16name\"b\"))",
		"break repeat repeatwhile a repeatuntil b": "0repun(0repwh(0repeat(0break) 25name\"a\") 39name\"b\")", "a:=b repeat": "0repeat(0assign1(0name\"a\" 3name\"b\"))", "resultis a repeat": "0repeat(0result(9name\"a\"))", "goto a repeat": "0repeat(0goto\"a\")", "return repeat": "0repeat(0return)", "finish repeat": "0repeat(0finish)", "loop repeat": "0repeat(0loop)", "endcase repeat": "0repeat(0endcase)",
		"if a do b()repeat": "0if(3name\"a\" 8repeat(8ccall(8call(8name\"b\"))))", "l:break repeat": "0label\"l\"(2repeat(2break))", "case 1:{}repeat": "0case(5num1 7repeat(7block(8null)))", "while a do break repeatwhile b": "0while(6name\"a\" 11repwh(11break 29name\"b\"))", "test a then{}repeat else{}repeat": "0test(5name\"a\" 11repeat(11block(12null)) 24repeat(24block(25null)))",
	} {
		wantCommand(t, src, want)
	}
	for _, src := range []string{"if a do{}", "while a do x()", "for i=1 to 2 do{}", "test a then{}else{}", "l:x()", "case 1:x()", "default:{}", "unless a do break", "until a do break"} {
		if n, err, _ := parse.Command(src + " repeat"); err != api.OK || n.Op == api.CRepeat {
			t.Errorf("Command(%q + repeat) = %s, error %d", src, tell(n), err)
		}
	}
	wantError(t, "{switchon a into{}repeat}", api.ErrToken, 18) // which ends in no basic
}

// P3.1: declarations, with the places of their nodes.
func TestDeclarations(t *testing.T) {
	for src, want := range map[string]string{
		"": "", " // \n": "", "section \"\"": "", "section\"a b\"": "a b", "manifest{}": "|0manifest", "static{}": "|0static", "global{}": "|0global", " manifest { a = 1 ; b = a+1 } ": "|1manifest(12const\"a\"(16num1) 20const\"b\"(24bin4(24name\"a\" 26num1)))", "static{a=1}": "|0static(7const\"a\"(9num1))", "global{a:20;b:c}": "|0global(7const\"a\"(9num20) 12const\"b\"(14name\"c\"))",
		"section\"s\"static{}manifest{}": "s|10static|18manifest",
		"let f()=1":                      "|0proc\"f\"(8num1)", "let f(a,b)=a": "|0proc\"f\"(6name\"a\" 8name\"b\" 11name\"a\")", "let f()be f()": "|0proc1\"f\"(10ccall(10call(10name\"f\")))", "let f() be": "|0proc1\"f\"(10null)", "let f()be l:": "|0proc1\"f\"(10label\"l\"(12null))",
		"let f()=1 and g()=2 let h()be and i()be{}": "|0proc\"f\"(8num1)|10proc\"g\"(18num2)|20proc1\"h\"(30null)|30proc1\"i\"(39block(40null))",
		"let f()be manifest{}let g()be static{}":    "|0proc1\"f\"(10null)|10manifest|20proc1\"g\"(30null)|30static",
		"let f()be if a do let g()be global{}":      "|0proc1\"f\"(10if(13name\"a\" 18null))|18proc1\"g\"(28null)|28global",
		"let f()be test a then else and g()=a":      "|0proc1\"f\"(10test(15name\"a\" 22null 27null))|27proc\"g\"(35name\"a\")",
		"let start(a,b,c,d,e,f,g,h)=?":              "|0proc\"start\"(10name\"a\" 12name\"b\" 14name\"c\" 16name\"d\" 18name\"e\" 20name\"f\" 22name\"g\" 24name\"h\" 27any)",
	} {
		wantSection(t, src, want)
	}
}

// P3.6: other blanks and comments make the same tree.
func TestBlanksAndComments(t *testing.T) {
	for _, src := range []string{
		"section \"s//\" manifest{a=1;b='/'}let f(x,y)=x!y>1->valof{let v=vec 9;resultis v!1 of 2},-1 and g()be{l:x,y:=y,x repeatuntil f()/2;goto l}",
		"static{}let f()be switchon a into{case 1:endcase;default:}global{f:20}",
	} {
		tokens, _, _ := lex.Scan(src)
		blanked := "\t"
		for _, token := range tokens[:len(tokens)-1] {
			word, _ := lex.Text([]api.Token{token})
			blanked += word + "\n//let \"\n \t//\n"
		}
		a, e, _ := parse.Parse(src)
		b, f, _ := parse.Parse(blanked)
		if e != api.OK || f != api.OK || len(a.Decls) == 0 || !parse.Same(a, b) {
			t.Errorf("%q: %s and %s, errors %d and %d", src, tellSection(a), tellSection(b), e, f)
		}
	}
}
