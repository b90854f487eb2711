package parse_test

import (
	"math/rand"
	"strings"
	"testing"

	"bluebell/api"
	"bluebell/parse"
)

// wantError looks at the error of a command, and at that of the same one as a procedure's body and in a valof.
func wantError(t *testing.T, src string, want api.Errno, place int) {
	t.Helper()
	n, err, at := parse.Command(src)
	if err != want || at != place || tell(n) != tell(api.Node{}) {
		t.Errorf("Command(%.60q): %s, error %d at %d; want error %d at %d", src, tell(n), err, at, want, place)
	}
	before := "let f() be "
	s, err, at := parse.Parse(before + src)
	if err != want || at != place+len(before) || tellSection(s) != "" {
		t.Errorf("Parse(%.60q): %s, error %d at %d; want error %d at %d", before+src, tellSection(s), err, at, want, place+len(before))
	}
}

func wantExprError(t *testing.T, src string, want api.Errno, place int) {
	t.Helper()
	n, err, at := parse.Expr(src)
	if err != want || at != place || tell(n) != tell(api.Node{}) {
		t.Errorf("Expr(%.60q): %s, error %d at %d; want error %d at %d", src, tell(n), err, at, want, place)
	}
}

func wantSectionError(t *testing.T, src string, want api.Errno, place int) {
	t.Helper()
	s, err, at := parse.Parse(src)
	if err != want || at != place || tellSection(s) != "" {
		t.Errorf("Parse(%.60q): %s, error %d at %d; want error %d at %d", src, tellSection(s), err, at, want, place)
	}
}

// P3.1: Scan's errors come first, whatever stands before them.
func TestErrorsOfScan(t *testing.T) {
	for _, x := range []struct {
		src   string
		err   api.Errno
		place int
	}{
		{"A", api.ErrByte, 0}, {") A", api.ErrByte, 2}, {"a a 'ab'", api.ErrText, 4}, {times("(", 300) + "2147483648", api.ErrBig, 300}, {"= " + times("a", 25), api.ErrLimit, 2}, {times(" ", 40001), api.ErrLimit, 0}, {times(";", 20000), api.ErrLimit, 20000},
	} {
		wantExprError(t, x.src, x.err, x.place)
		wantSectionError(t, x.src, x.err, x.place)
		if n, err, at := parse.Command(x.src); err != x.err || at != x.place || n.Op != 0 {
			t.Errorf("Command(%.60q): error %d at %d", x.src, err, at)
		}
	}
}

// P3.1: ErrToken in expressions.
func TestWrongTokensOfExpressions(t *testing.T) {
	for src, place := range map[string]int{
		"": 0, " ": 1, ")": 0, "let": 0, "if": 0, "or": 0, ":=": 0, "a b": 2, "1 2": 2, "a)": 1, "(a": 2, "()": 1, "a+": 2, "a + ": 4, "+a": 0, "a+*b": 2, "a,b": 1, "a:=b": 1, "a:": 1, "a;": 1,
		"a+-b": 2, "a*-b": 2, "a!-b": 2, "!-a": 1, "--a": 1, "a+~b": 2, "-~a": 1, "!~a": 1, "a=~b": 2, "a<<~b": 3, "a=b=c": 3, "a<b>=c": 3, "~a=b=c": 4, "a=b~=c&d": 3, "a or b": 2,
		"f(": 2, "f(a": 3, "f(,": 2, "f(a,": 4, "f(a,)": 4, "f(a b)": 4, "f(a;b)": 3, "f()a": 3, "a->b": 4, "a->b,": 5, "a->,b": 3, "a->b:c": 4, "a->b,c,d": 6, "->": 0, "a->->": 3,
		"valof": 5, "valof a": 6, "valof{": 6, "valof(a)": 5, "valof resultis 1": 6, "valof{}{}": 7, "table": 5, "table 1": 6, "table()": 6, "table(1": 7, "table(1,)": 8, "table(1)2": 8, "table{1}": 5,
		"slct": 4, "slct()": 5, "slct(1)": 6, "slct(1,2)": 8, "slct(1,2,3,4)": 10, "slct(1,2,3": 10, "slct 1": 5, "true false": 5, "?1": 1, "\"a\"\"b\"": 3, "a of": 4, "of a": 0, "a of of b": 5, "rem": 0, "a rem": 5, "vec 1": 0, "section": 0,
	} {
		wantExprError(t, src, api.ErrToken, place)
	}
}

// P3.1: ErrToken in commands.
func TestWrongTokensOfCommands(t *testing.T) {
	for src, place := range map[string]int{
		"a": 1, "a + 1": 5, "1": 1, "a!b)": 3, "f()a": 3, "f() f()": 4, "f(),": 4, "f(x)+1": 6, "-f()": 4, "!f(x)": 5, "true": 4, "{a}": 2, "{f() a}": 5, "{a;}": 2, "-": 1, "a b": 2, "a repeat": 2, "\"s\"": 3,
		"a:=": 3, "a:=;": 3, "a,:=1": 2, "a,b": 3, "a,b;": 3, "a,b+": 4, "a,b 1": 4, ":=1": 0, "a:=b:=c": 4, "a:=1,2": 4, "a:=1,": 4, "a,b:=1": 6, "a,b:=1;": 6, "a,b:=1 repeat": 7, "a,b:=1,": 7, "a,b:=1,2,3": 8, "a,b:=1,2,": 8, "a,b,c:=1,2)": 10, "f(),g():=1": 10, "a,b,:=1,2": 4,
		"{": 1, "}": 0, "{}}": 2, "{;": 2, "{)": 1, "{}a": 2, "{} {}": 3, "{a()": 4, "{a(),b()}": 8, "if": 2, "if do": 3, "if a": 4, "if a then b()": 5, "if a b()": 5, "if a do }": 8, "test a do": 7, "test a then": 11, "test a then b()": 15, "test a then b() else }": 21, "test a else": 7, "else": 0, "then": 0, "do": 0,
		"while do": 6, "until a then": 8, "for": 3, "for 1=": 4, "for i to": 6, "for i:=1": 5, "for i=1 do": 8, "for i=1 to do": 11, "for i=1 to 2 by do": 16, "for i=1 to 2 by 3": 17, "for i=1 to 2 to": 13, "for i,j=1 to 2": 5,
		"switchon a {": 11, "switchon a into": 15, "switchon a into b()": 16, "switchon a into case 1:": 16, "switchon into": 9, "case": 4, "case:": 4, "case 1": 6, "case 1;": 6, "case 1,2:": 6, "default": 7, "default 1:": 8, "a::": 2, "1:": 1, "a!b:": 3, "(a):": 3, "break 1": 6, "break;": 5, "return a": 7, "goto": 4, "goto 1": 5, "goto a b": 7, "resultis": 8, "resultis;": 8, "finish()": 6,
		"repeat": 0, "repeatwhile a": 0, "repeatuntil a": 0, "{repeat}": 1, "if a do repeat": 8, "a:repeat": 2, "case 1:repeatwhile b": 7, "f();repeat": 3, "{f();repeat}": 5, "test a then repeat": 12, "f()repeatwhile": 14, "f()repeatuntil;": 14, "f()repeat 1": 10, "{break repeat while a}": 14,
		"{let}": 4, "{let 1=2}": 5, "{let a}": 6, "{let a 1}": 7, "{let a:=1}": 6, "{let a=}": 7, "{let a,=1}": 7, "{let a,b=1}": 10, "{let a,b=1;}": 10, "{let a=1,2}": 8, "{let a=1,}": 8, "{let a,b=1,2,3}": 12, "{let a=vec}": 10, "{let v=vec 9,1}": 12, "{let a,b=vec 1,2}": 9, "{let a,b=1,vec 2}": 11, "{let f()=1}": 6, "{let if=1}": 5, "{let a b=1}": 7, "{if a do let b=1}": 9, "{l:let a=1}": 3, "{let a=1 repeat}": 9, "{and": 1, "{section": 1, "{manifest{}}": 1, "vec": 0, "by": 0,
	} {
		wantError(t, src, api.ErrToken, place)
	}
	for _, src := range []string{";", "let a=1", "let v=vec 1", "and", "static{}", "section"} {
		if n, err, at := parse.Command(src); err != api.ErrToken || at != 0 || n.Op != 0 {
			t.Errorf("Command(%q): error %d at %d", src, err, at)
		}
	}
}

// P3.1: ErrToken in sections.
func TestWrongTokensOfSections(t *testing.T) {
	for src, place := range map[string]int{
		"x": 0, ";": 0, "1": 0, "}": 0, "and f()=1": 0, "section": 7, "section s": 8, "section 1": 8, "section\"a\"\"b\"": 10, "section\"a\"section\"b\"": 10, "static{}section\"s\"": 8, "section\"s\"and": 10, "manifest": 8, "manifest a": 9, "manifest{": 9, "manifest{1": 9, "manifest{a": 10, "manifest{a}": 10, "manifest{a:1}": 10, "manifest{a=}": 11, "manifest{a=1": 12, "manifest{a=1;}": 13, "manifest{;}": 9, "manifest{a=1,b=2}": 12, "manifest{a=1}}": 13, "manifest{a=1 b=2}": 13, "manifest{if=1}": 9, "static{a:1}": 8, "static{a=1;;}": 11, "global{a=1}": 8, "global{a:1;b=2}": 12, "global{a:=1}": 8, "manifest{}and f()=1": 10, "manifest{};static{}": 10,
		"let": 3, "let 1": 4, "let if()=1": 4, "let f": 5, "let f=1": 5, "let f(": 6, "let f(1": 6, "let f(,": 6, "let f(a": 7, "let f(a,": 8, "let f(a,)": 8, "let f(a b)": 8, "let f(a,1)": 8, "let f(a+1)": 7, "let f()": 7, "let f();": 7, "let f() f()": 8, "let f():=1": 7, "let f()=": 8, "let f()=be": 8, "let f()=1 be": 10, "let f()=1;": 9, "let f()=1 g()=2": 10, "let f()=1 and": 13, "let f()=1 and let g()=2": 14, "let f()=1 let and": 14, "let f()=1 static{} and g()=1": 19, "let f()=a:=1": 9, "let f()be =": 10, "let f()be;": 9, "let f()be section\"s\"": 10, "let f()be{}{}": 11, "let f()be let a=1": 15, "let f(a,a)be else": 13,
	} {
		wantSectionError(t, src, api.ErrToken, place)
	}
}

// P3.1: ErrLimit at the one too many, before what is behind its first token.
func TestTooManyParts(t *testing.T) {
	eight := times("a,", 8)
	for _, before := range []string{"let f(" + eight, "let f()=1 and g(" + eight} {
		for _, behind := range []string{"a)=1", "a,,,", "a", "a=", "a,a,a"} {
			wantSectionError(t, before+behind, api.ErrLimit, len(before))
		}
		for _, behind := range []string{"", ")=1", ",", "if)", "1)"} {
			wantSectionError(t, before+behind, api.ErrToken, len(before))
		}
	}
	for _, before := range []string{"f(" + eight, "a+f(1)(" + eight, "table(" + times("1,", 100), "table(" + times("a+1,", 100)} {
		for _, behind := range []string{"a)", "1", "(a))", "(", "-", "~a", "!", "@a)", "?)", "true)", "false,", "valof", "table", "slct", "\"s\")", "a,a,a)"} {
			wantExprError(t, before+behind, api.ErrLimit, len(before))
		}
		for _, behind := range []string{"", ")", ",", "if", "+", "->", "*1)"} {
			wantExprError(t, before+behind, api.ErrToken, len(before))
		}
	}
	for _, before := range []string{eight, times("a!1,", 8), "{let " + eight} {
		wantError(t, before+"a:=1", api.ErrLimit, len(before))
		wantError(t, before+"a,", api.ErrLimit, len(before))
		wantError(t, before+":=1", api.ErrToken, len(before))
		wantError(t, before+",:=1", api.ErrToken, len(before))
	}
	wantError(t, eight+"(a):=1", api.ErrLimit, len(eight))
	wantError(t, "{let "+eight+"1=1}", api.ErrToken, 5+len(eight))
	most := times("a,", 7) + "a"
	for _, src := range []string{"f(" + most + ")", "table(" + times("1,", 99) + "1)"} {
		if _, err, at := parse.Expr(src); err != api.OK || at != 0 {
			t.Errorf("Expr(%q): error %d at %d", src, err, at)
		}
	}
	for _, src := range []string{most + ":=" + most, "{let " + most + "=" + most + "}"} {
		if _, err, at := parse.Command(src); err != api.OK || at != 0 {
			t.Errorf("Command(%q): error %d at %d", src, err, at)
		}
		wantError(t, src[:len(src)-len(most)+5], api.ErrToken, len(src)-len(most)+5)
	}
	wantError(t, most+":="+most+",a", api.ErrToken, 2*len(most)+2)
}

// P3.1: a declaration with too many levels, told at its first token.
func TestTooManyLevels(t *testing.T) {
	for before, behind := range map[string]string{"-(": ")", "~": "", "!": "", "f(": ")", "a+(": ")", "a->b,": "", "(a->b,": ")", "table(": ")", "@(a!": ")"} {
		count := 39 // a name is a level, too
		if before == "@(a!" {
			count = 19
		}
		if good := times(before, count) + "a" + times(behind, count); mustExpr(t, good).Op == 0 {
			t.Errorf("%q is refused", good)
		}
		bad := " " + times(before, count+1) + "a" + times(behind, count+1)
		wantExprError(t, bad, api.ErrDeep, 0)
		wantExprError(t, bad+" )", api.ErrDeep, 0)
		wantSectionError(t, " let f()="+bad, api.ErrDeep, 1)
		wantSectionError(t, "let f()=1 and g()="+bad, api.ErrDeep, 10)
		wantSectionError(t, "let f()=1 let g()="+bad+" )", api.ErrDeep, 10)
		wantSectionError(t, "let f()=1 let g()be f("+bad+")a", api.ErrDeep, 10)
		wantSectionError(t, "let f()=1 let g()be{f("+bad+")a}", api.ErrToken, 23+len(bad))
		wantSectionError(t, "let f()=1 let g()be b->"+bad+",c and h()=1", api.ErrToken, 26+len(bad))
		wantSectionError(t, "static{}manifest{a=1;b="+bad+"}", api.ErrDeep, 8)
		wantSectionError(t, "manifest{a="+bad+";1}", api.ErrToken, 12+len(bad))
	}
	wantExprError(t, times("a+", 40)+"a", api.ErrDeep, 0)
	wantExprError(t, times("a+", 40)+"a+", api.ErrToken, 82)
	wantSectionError(t, "let f()=1 "+"let g()=~"+times("a+", 37)+"a let h()="+times("a+", 50)+"1", api.ErrDeep, 95)
	for before, behind := range map[string]string{"if a do ": "", "l:": "", "{": "}", "test a then else ": "", "case 1:": "", "for i=1 to 2 by 3 do ": "", "test a then ": " else"} {
		if _, err, _ := parse.Command(times(before, 39) + times(behind, 39)); err != api.OK {
			t.Errorf("39 of %q: error %d", before, err)
		}
		if n, err, at := parse.Command(" " + times(before, 40) + times(behind, 40)); err != api.ErrDeep || at != 0 || n.Op != 0 {
			t.Errorf("40 of %q: error %d at %d", before, err, at)
		}
		wantSectionError(t, "let f()=1 let g()be "+times(before, 39)+times(behind, 39), api.ErrDeep, 10)
		wantSectionError(t, "let g()be "+times(before, 39)+times(behind, 39)+" )", api.ErrDeep, 0)
		wantError(t, "{"+times(before, 39)+times(behind, 39)+" )}", api.ErrToken, 2+39*len(before)+39*len(behind))
	}
	if _, err, at := parse.Parse("let f()be break" + times(" repeat", 38)); err != api.OK {
		t.Errorf("38 repeats: error %d at %d", err, at)
	}
	wantSectionError(t, " let f()be break"+times(" repeat", 39), api.ErrDeep, 1)
	wantSectionError(t, "let f()be a:="+times("!", 50)+"a,1", api.ErrToken, 64)
	wantSectionError(t, "let f()be "+times("if a do ", 50)+"repeat", api.ErrToken, 410)
}

// P3.1: more than 4 * MaxNest within each other while parsing, told at the one too many.
func TestTooManyOpen(t *testing.T) {
	for before, behind := range map[string]string{"(": ")", "f(": ")", "table(": ")", "slct(1,2,": ")", "~": "", "!": "", "@": "", "a->": ",b", "a->b,": "", "valof{f(": ")}", "-(": ")", "(a->b,": ")", "f(a,~": ")", "valof{{{": "}}}", "!(": ")"} {
		opens := strings.Count(before, "(") + strings.Count(before, "{") + strings.Count(before, "->") + strings.Count(before, "~") + strings.Count(before, "!") + strings.Count(before, "@")
		for _, prefix := range []string{"", "manifest{a=", "let f(a,b)="} {
			src := prefix + times(before, 161)
			place, count := 0, 0
			for count <= 160 {
				place++
				rest := src[place-1:]
				if place > len(prefix) && (strings.ContainsAny(rest[:1], "({~!@") || strings.HasPrefix(rest, "->")) {
					count++
				}
			}
			if prefix == "" {
				wantExprError(t, src, api.ErrDeep, place-1)
			} else {
				wantSectionError(t, src, api.ErrDeep, place-1)
			}
		}
		if 160%opens == 0 && behind != "" { // as many as may be: refused by the levels alone, or not at all
			want := api.ErrDeep
			if before == "(" {
				want = api.OK
			}
			body := "a"
			if strings.HasSuffix(before, "{") {
				body = ""
			}
			if _, err, at := parse.Expr(times(before, 160/opens) + body + times(behind, 160/opens)); err != want || at != 0 {
				t.Errorf("160 of %q: error %d at %d", before, err, at)
			}
		}
	}
	beside := times("(", 100) + "a" + times(")", 100)
	if _, err, at := parse.Expr("f(" + beside + "+" + beside + ",!" + beside + ",~~" + beside + ")(" + beside + ")->" + beside + "," + beside); err != api.OK {
		t.Errorf("beside each other: error %d at %d", err, at)
	}
	beside = "table(" + times("(a->~b,!@c),", 99) + "f(~a))"
	if _, err, at := parse.Expr("f(" + beside + "," + beside + ")"); err != api.OK {
		t.Errorf("more beside each other: error %d at %d", err, at)
	}
	wantExprError(t, times("(", 160)+"->", api.ErrToken, 160)
	wantExprError(t, times("(", 160)+"a(", api.ErrDeep, 161)
	wantExprError(t, times("(", 159)+"f("+times("a,", 8)+"(", api.ErrLimit, 177)
	wantError(t, times("{", 161), api.ErrDeep, 160)
	wantError(t, "{"+times("if a do ", 2000)+")}", api.ErrToken, 16001)
}

func mustExpr(t *testing.T, src string) api.Node {
	t.Helper()
	n, err, at := parse.Expr(src)
	if err != api.OK {
		t.Fatalf("Expr(%q): error %d at %d", src, err, at)
	}
	return n
}

// R1: whatever the tokens, an answer comes, and trees come only without an error.
func TestAnyTokens(t *testing.T) {
	words := strings.Fields("section let and be = == : := , ; ( ) { } a b f 1 2 \"s\" valof table slct if do test then else while for to by switchon into case default break resultis repeat repeatwhile manifest global vec ! @ - ~ + -> of ? goto return")
	r := rand.New(rand.NewSource(2))
	for range 20000 {
		var src []string
		for range r.Intn(30) {
			src = append(src, words[r.Intn(len(words))])
		}
		text := strings.Join(src, " ")
		s, e, at := parse.Parse(text)
		n, f, place := parse.Expr(text)
		c, g, where := parse.Command(text)
		_, command := parse.PrintCommand(c)
		for _, x := range []struct {
			err, check api.Errno
			place      int
			none       bool
		}{{e, parse.Check(s), at, tellSection(s) == ""}, {f, parse.CheckExpr(n), place, tell(n) == tell(api.Node{})}, {g, command, where, tell(c) == tell(api.Node{})}} {
			good := x.err == api.OK && x.check == api.OK && x.place == 0
			bad := x.err != api.OK && x.none && x.place >= 0 && x.place <= len(text)
			if !good && !bad {
				t.Fatalf("%q: error %d at %d, Check %d", text, x.err, x.place, x.check)
			}
		}
	}
	wantError(t, "{"+times("if a do l:", 2500)+")", api.ErrToken, 25001)
}
