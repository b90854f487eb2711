package trans_test

import (
	"strings"
	"testing"

	"bluebell/api"
	"bluebell/ocode"
	"bluebell/trans"
)

// textOf returns code's text but for its last line, with commas instead of line feeds.
func textOf(t *testing.T, c api.Code) string {
	t.Helper()
	s, err := ocode.Text(c)
	if err != api.OK {
		t.Fatalf("Text: error %d", err)
	}
	return strings.ReplaceAll(strings.TrimSuffix(s, "\nend\n"), "\n", ",")
}

// wantText compiles a source.
func wantText(t *testing.T, src, want string) {
	t.Helper()
	c, err, at := trans.Compile(src)
	if err != api.OK || at != 0 {
		t.Errorf("Compile(%q): error %d at %d", src, err, at)
		return
	}
	if s := textOf(t, c); s != want {
		t.Errorf("Compile(%q):\n%s; want\n%s", src, s, want)
	}
}

// wantBody compiles a procedure `f`, and looks at its instructions but the first and the last one; around it there are names of all kinds.
func wantBody(t *testing.T, proc, want string) {
	t.Helper()
	const head = "manifest { one = 1 ; big = #7fffffff } static { s = 7 ; r = -1 } global { g : 40 ; h : 41 } let h() = 0 let k() be { } let "
	c, err, at := trans.Compile(head + proc)
	if err != api.OK || at != 0 {
		t.Errorf("Compile of %q: error %d at %d", proc, err, at-len(head))
		return
	}
	_, body, ok := strings.Cut(textOf(t, c), ",enter 3 ")
	lines := strings.Split(body, ",")
	if got := strings.Join(lines[1:max(len(lines)-1, 1)], ","); !ok || got != want {
		t.Errorf("%q:\n%s; want\n%s", proc, got, want)
	}
}

// P7.1
func TestSections(t *testing.T) {
	wantText(t, "", "code \"\"")
	wantText(t, "section \"a name\" manifest { n = 1 }", "code \"a name\"")
	wantText(t, "static { a = -1 ; b = 1 << 31 } manifest { n = 4 } static { c = n + n ; d = slct(3, 2, 1) }", "code \"\",words -1,words -2147483648,words 8,words 1091")
	wantText(t, "let f() = \"t\" static { a = 1 } let g() = table(2, 3) let h() = \"\" static { b = 4 }", "code \"\",words 1,words 4,text \"t\",words 2 3,text \"\",enter 1 0,addrs 2,return 0,enter 2 0,addrs 3,return 0,enter 3 0,addrs 4,return 0")
	wantText(t, "global { g : 30 ; h : 12 ; i : 13 } let a() be { } let h(a, b) be { } let start(a) = a let g() = a let i1() = i", "code \"\",entry 12 2,entry 1 3,entry 30 4,enter 1 0,back 0,enter 2 2,back 0,enter 3 1,local 2,return 0,enter 4 0,proc 1,return 0,enter 5 0,global 13,return 0")
	wantText(t, "let g() = 0 global { g : 199 }", "code \"\",entry 199 1,enter 1 0,num 0,return 0")
	wantText(t, "let f(a, b, c, d, e, g, h, i) = i", "code \"\",enter 1 8,local 9,return 0")
}

// P7.1
func TestConstants(t *testing.T) {
	wantBody(t, "f() = 0", "num 0")
	wantBody(t, "f() = #ffffffff", "num -1")
	wantBody(t, "f() = #80000000", "num -2147483648")
	wantBody(t, "f() = 'A'", "num 65")
	wantBody(t, "f() = -1", "num 1,un neg")
	wantBody(t, "f() = true", "num -1")
	wantBody(t, "f() = false", "num 0")
	wantBody(t, "f() = ?", "num 0")
	wantBody(t, "f() = one", "num 1")
	wantBody(t, "f() = big", "num 2147483647")
	wantBody(t, "f() = big + one", "num 2147483647,num 1,bin add")
	wantBody(t, "f() = slct(big - big, one + 2, 255)", "num 261216")
	wantBody(t, "f() = slct(16, 0, 0)", "num 16")
	wantBody(t, "f() = later manifest { later = one + one }", "num 2")
}

// P7.1
func TestNames(t *testing.T) {
	wantBody(t, "f(a, b) = b - a", "local 3,local 2,bin sub")
	wantBody(t, "f() = s + r", "static 0,static 1,bin add")
	wantBody(t, "f() = k", "proc 2")
	wantBody(t, "f() = f", "proc 3")
	wantBody(t, "f() = g + h", "global 40,global 41,bin add")
	wantBody(t, "f() = table(one)!0 + deleteco", "addrs 2,num 0,bin add,load 0,global 11,bin add")
	wantBody(t, "f() = start + rdch", "global 1,global 2,bin add")
	wantBody(t, "f(s, k, g, one, h, wrch) = s + k + g + one + h + wrch", "local 2,local 3,bin add,local 4,bin add,local 5,bin add,local 6,bin add,local 7,bin add")
	wantBody(t, "f(a) be { s := a ; g := s ; a := g ; r, a := a, r }", "local 2,puts 0,static 0,putg 40,global 40,putl 2,local 2,puts 1,static 1,putl 2")
	wantBody(t, "f(a) = @a + @s + @g + @r", "addrl 2,addrs 0,bin add,addrg 40,bin add,addrs 1,bin add")
}

// P7.1
func TestExpressions(t *testing.T) {
	wantBody(t, "f(a, b) = a ! b", "local 2,local 3,bin add,load 0")
	wantBody(t, "f(a, b) = a % b", "local 2,local 3,getb 0")
	wantBody(t, "f(a) = ! ! a", "local 2,load 0,load 0")
	wantBody(t, "f(a, b) = @(a ! b)", "local 2,local 3,bin add")
	wantBody(t, "f(a) = @! a", "local 2")
	wantBody(t, "f(a) = ~ a", "local 2,un not")
	wantBody(t, "f(a, b) = (a * b) / (a rem b)", "local 2,local 3,bin mul,local 2,local 3,bin rem,bin div")
	wantBody(t, "f(a, b) = (a << b >> 1) & (a xor b eqv a | b)", "local 2,local 3,bin shl,num 1,bin shr,local 2,local 3,bin xor,local 2,local 3,bin or,bin eqv,bin and")
	wantBody(t, "f(a, b) = (a = b) + (a ~= b) + (a < b) + (a <= b) + (a > b) + (a >= b)", "local 2,local 3,bin eq,local 2,local 3,bin ne,bin add,local 2,local 3,bin lt,bin add,local 2,local 3,bin le,bin add,local 2,local 3,bin gt,bin add,local 2,local 3,bin ge,bin add")
	wantBody(t, "f(a) = f()", "stack 5,proc 3,call 3")
	wantBody(t, "f(a) = 1 + f(2, a)", "num 1,stack 6,num 2,local 2,proc 3,call 4,bin add")
	wantBody(t, "f(a) = f(f(a))(k())", "stack 5,stack 7,proc 2,call 5,stack 8,stack 10,local 2,proc 3,call 8,proc 3,call 6,call 3")
	wantBody(t, "f() = (s -> k, f)(1)", "stack 4,num 1,static 0,false 1,proc 2,jump 2,label 1,stack 5,proc 3,label 2,stack 6,call 2")
	wantBody(t, "f(a) = 1 + (a -> 2, a -> 3, 4)", "num 1,local 2,false 1,num 2,jump 2,label 1,stack 4,local 2,false 3,num 3,jump 4,label 3,stack 4,num 4,label 4,stack 5,label 2,stack 5,bin add")
	wantBody(t, "f(a) = (a -> 1, 2) -> (a -> 3, 4), (a -> 5, 6)", "local 2,false 1,num 1,jump 2,label 1,stack 3,num 2,label 2,stack 4,false 3,local 2,false 5,num 3,jump 6,label 5,stack 3,num 4,label 6,stack 4,jump 4,label 3,stack 3,local 2,false 7,num 5,jump 8,label 7,stack 3,num 6,label 8,stack 4,label 4,stack 4")
	wantBody(t, "f() = \"a\" + table(1, big, -1, slct(1, 1, 1)) + \"a\"", "addrs 2,addrs 3,bin add,addrs 4,bin add")
	wantBody(t, "f() = valof { }", "num 0,result 1,label 1,take 2")
	wantBody(t, "f() = valof { s := 1 }", "num 1,puts 0,num 0,result 1,label 1,take 2")
	wantBody(t, "f(a) = a + valof { let b, c = 1, 2 ; resultis b ; resultis c + valof { resultis a } }", "local 2,num 1,num 2,local 4,result 1,local 5,local 2,result 2,num 0,result 2,label 2,take 7,bin add,result 1,stack 4,num 0,result 1,label 1,take 4,bin add")
	wantBody(t, "f(a) be a := valof { resultis 1 } + valof { resultis 2 }", "num 1,result 1,num 0,result 1,label 1,take 3,num 2,result 2,num 0,result 2,label 2,take 4,bin add,putl 2")
}

// P7.1
func TestSelectors(t *testing.T) {
	wantBody(t, "f(a) = slct(0, 0, 0) of a", "local 2,load 0")
	wantBody(t, "f(a) = slct(8, 0, 0) of a", "local 2,load 0,num 255,bin and")
	wantBody(t, "f(a) = slct(0, 16, 1) of a", "local 2,num 1,bin add,load 0,num 16,bin shr")
	wantBody(t, "f(a) = slct(16, 0, 255) of a", "local 2,num 255,bin add,load 0,num 65535,bin and")
	wantBody(t, "f(a) = (32 + one) of f(a)", "stack 5,local 2,proc 3,call 3,load 0,num 1,bin shr,num 1,bin and")
	wantBody(t, "f(a) = one of (one of a)", "local 2,load 0,num 1,bin and,load 0,num 1,bin and")
	wantBody(t, "f(a) be slct(0, 0, 0) of a := s", "local 2,static 0,local 3,load 0,num 0,bin and,bin or,local 3,store 0,stack 3")
	wantBody(t, "f(a) be slct(0, 16, 0) of a := s", "local 2,static 0,num 16,bin shl,local 3,load 0,num 65535,bin and,bin or,local 3,store 0,stack 3")
	wantBody(t, "f(a) be slct(16, 0, 2) of a := s", "local 2,num 2,bin add,static 0,num 65535,bin and,local 3,load 0,num -65536,bin and,bin or,local 3,store 0,stack 3")
	wantBody(t, "f(a) be slct(1, 15, 0) of a := s", "local 2,static 0,num 1,bin and,num 15,bin shl,local 3,load 0,num -32769,bin and,bin or,local 3,store 0,stack 3")
	wantBody(t, "f() be { let a = 1 ; slct(0, 1, 0) of a := 2 }", "num 1,local 2,num 2,num 1,bin shl,local 3,load 0,num 1,bin and,bin or,local 3,store 0,stack 3,stack 2")
}

// P7.1
func TestAssignments(t *testing.T) {
	wantBody(t, "f(a, b) be a ! 1 := b", "local 3,local 2,num 1,bin add,store 0")
	wantBody(t, "f(a, b) be ! a := b", "local 3,local 2,store 0")
	wantBody(t, "f(a, b) be ! ! a := b", "local 3,local 2,load 0,store 0")
	wantBody(t, "f(a, b) be a % 1 := b", "local 3,local 2,num 1,putb 0")
	wantBody(t, "f(a, b) be a, b ! a, b % a := b, 1, 2", "local 3,putl 2,num 1,local 3,local 2,bin add,store 0,num 2,local 3,local 2,putb 0")
	wantBody(t, "f(a) be (a ! 1) ! 2 := a ! 3", "local 2,num 3,bin add,load 0,local 2,num 1,bin add,load 0,num 2,bin add,store 0")
}

// P7.1
func TestCommands(t *testing.T) {
	wantBody(t, "f() be { }", "")
	wantBody(t, "f() be k()", "stack 4,proc 2,call 2,stack 2")
	wantBody(t, "f() be { let a = 1 ; k(a)(2) }", "num 1,stack 5,num 2,stack 8,local 2,proc 2,call 6,call 3,stack 3,stack 2")
	wantBody(t, "f(a) be if a do return", "local 2,false 1,back 0,label 1,stack 3")
	wantBody(t, "f(a) be unless a do finish", "local 2,true 1,stack 5,num 0,global 4,call 3,stack 3,label 1,stack 3")
	wantBody(t, "f(a) be test a then a := 1 else return", "local 2,false 1,num 1,putl 2,jump 2,label 1,stack 3,back 0,label 2,stack 3")
	wantBody(t, "f(a) be if a -> 1, 2 do unless valof { } do test a then { } else { }", "local 2,false 1,num 1,jump 2,label 1,stack 3,num 2,label 2,stack 4,false 3,num 0,result 4,label 4,take 3,true 5,local 2,false 6,jump 7,label 6,stack 3,label 7,stack 3,label 5,stack 3,label 3,stack 3")
	wantBody(t, "f(a) be { let b = a ; if b do { let c, d = a, b ; k() } ; k() }", "local 2,local 3,false 1,local 2,local 3,stack 8,proc 2,call 6,stack 6,stack 4,label 1,stack 4,stack 6,proc 2,call 4,stack 4,stack 3")
}

// P7.1
func TestLoops(t *testing.T) {
	wantBody(t, "f(a) be while a do { break ; loop }", "label 1,stack 3,local 2,false 2,jump 2,jump 1,jump 1,label 2,stack 3")
	wantBody(t, "f(a) be until a -> 1, 2 do loop", "label 1,stack 3,local 2,false 3,num 1,jump 4,label 3,stack 3,num 2,label 4,stack 4,true 2,jump 1,jump 1,label 2,stack 3")
	wantBody(t, "f(a) be { break ; loop } repeat", "label 1,stack 3,jump 2,jump 1,jump 1,label 2,stack 3")
	wantBody(t, "f(a) be { break ; loop } repeatwhile a", "label 1,stack 3,jump 2,jump 3,label 3,stack 3,local 2,true 1,label 2,stack 3")
	wantBody(t, "f(a) be loop repeat repeatuntil a", "label 1,stack 3,label 4,stack 3,jump 4,jump 4,label 5,stack 3,label 3,stack 3,local 2,false 1,label 2,stack 3")
	wantBody(t, "f(a) be while a do { loop repeatwhile a ; loop }", "label 1,stack 3,local 2,false 2,label 3,stack 3,jump 5,label 5,stack 3,local 2,true 3,label 4,stack 3,jump 1,jump 1,label 2,stack 3")
	wantBody(t, "f(a) be while a do a := valof { break repeat ; resultis 1 }", "label 1,stack 3,local 2,false 2,label 4,stack 3,jump 5,jump 4,label 5,stack 3,num 1,result 3,num 0,result 3,label 3,take 3,putl 2,jump 1,label 2,stack 3")
	wantBody(t, "f(a) be for a = a to a do a := a", "local 2,local 2,jump 3,label 1,stack 5,local 3,putl 3,label 2,stack 5,local 3,num 1,bin add,putl 3,label 3,stack 5,local 3,local 4,bin le,true 1,label 4,stack 3")
	wantBody(t, "f() be for i = 1 to 2 by -(one + one) do { break ; loop ; let j = i ; break }", "num 1,num 2,jump 3,label 1,stack 4,jump 4,jump 2,local 2,jump 4,stack 4,label 2,stack 4,local 2,num -2,bin add,putl 2,label 3,stack 4,local 2,local 3,bin ge,true 1,label 4,stack 2")
	wantBody(t, "f() be { for i = valof { } to valof { } by big do { } ; let i = 1 ; i := 2 }", "num 0,result 1,label 1,take 2,num 0,result 2,label 2,take 3,jump 5,label 3,stack 4,label 4,stack 4,local 2,num 2147483647,bin add,putl 2,label 5,stack 4,local 2,local 3,bin le,true 3,label 6,stack 2,num 1,num 2,putl 2,stack 2")
	wantBody(t, "f() be for i = 1 to 2 do for j = i to 3 do loop", "num 1,num 2,jump 3,label 1,stack 4,local 2,num 3,jump 7,label 5,stack 6,jump 6,label 6,stack 6,local 4,num 1,bin add,putl 4,label 7,stack 6,local 4,local 5,bin le,true 5,label 8,stack 4,label 2,stack 4,local 2,num 1,bin add,putl 2,label 3,stack 4,local 2,local 3,bin le,true 1,label 4,stack 2")
}

// P7.1
func TestSwitches(t *testing.T) {
	wantBody(t, "f(a) be switchon a into { }", "local 2,switch 1 0,label 1,stack 3")
	wantBody(t, "f(a) be switchon a into { default : }", "local 2,switch 1 0,label 1,stack 3,label 2,stack 3")
	wantBody(t, "f(a) be switchon a into { k() ; case one : endcase }", "local 2,switch 2 1,case 1 1,stack 5,proc 2,call 3,stack 3,label 1,stack 3,jump 2,label 2,stack 3")
	wantBody(t, "f(a) be switchon a into { default : case 9 : l : case -(3) : m : k() ; goto l }", "local 2,switch 3 2,case 9 1,case -3 2,label 3,stack 3,label 1,stack 3,label 5,stack 3,label 2,stack 3,label 6,stack 3,stack 5,proc 2,call 3,stack 3,jump 5,label 4,stack 3")
	wantBody(t, "f(a) be switchon a -> 1, 2 into { case 1 : switchon 5 into { default : endcase ; case 1 : endcase } ; case 2 : endcase }", "local 2,false 1,num 1,jump 2,label 1,stack 3,num 2,label 2,stack 4,switch 5 2,case 1 3,case 2 4,label 3,stack 3,num 5,switch 7 1,case 1 6,label 7,stack 3,jump 8,label 6,stack 3,jump 8,label 8,stack 3,label 4,stack 3,jump 5,label 5,stack 3")
	wantBody(t, "f(a) be while a do switchon a into { let b = a ; case 1 : loop ; let c = b ; case 2 : break ; default : { endcase repeat } }", "label 1,stack 3,local 2,false 2,local 2,switch 5 2,case 1 3,case 2 4,local 2,label 3,stack 4,jump 1,local 3,label 4,stack 5,jump 2,label 5,stack 5,label 7,stack 5,jump 6,jump 7,label 8,stack 5,stack 3,label 6,stack 3,jump 1,label 2,stack 3")
}

// P7.1
func TestBlocks(t *testing.T) {
	wantBody(t, "f() be { let a = vec 0 ; let b = vec one + 3 ; a := b }", "addrl 3,stack 4,addrl 5,stack 10,local 4,putl 2,stack 2")
	wantBody(t, "f() be { let v = vec 2000 ; v() }", "addrl 3,stack 2004,stack 2006,local 2,call 2004,stack 2004,stack 2")
	wantBody(t, "f(a) be { let a, b = a, @ a ; let a = a ; a := b ; { let b = a ; b := a } ; a := b }", "local 2,addrl 2,local 3,local 4,putl 5,local 5,local 5,putl 6,stack 6,local 4,putl 5,stack 3")
	wantBody(t, "f() be { { let s = 1 ; s := 2 } ; s := 3 ; let one = 4 ; one := one }", "num 1,num 2,putl 2,stack 2,num 3,puts 0,num 4,local 2,putl 2,stack 2")
	wantBody(t, "f(a) be { let b = valof { let c = a ; resultis c } ; b := a }", "local 2,local 3,result 1,stack 3,num 0,result 1,label 1,take 3,local 2,putl 3,stack 3")
	wantBody(t, "f(a) be { goto m ; l : ; let b = a ; m : goto l ; { m : goto m ; goto l } ; goto m }", "jump 2,label 1,stack 3,local 2,label 2,stack 4,jump 1,label 3,stack 4,jump 3,jump 1,jump 2,stack 3")
	wantBody(t, "f(a) be { l : m : if a do { l : goto m } ; n : goto l }", "label 1,stack 3,label 2,stack 3,local 2,false 4,label 5,stack 3,jump 2,label 4,stack 3,label 3,stack 3,jump 1")
	wantBody(t, "f(a) be { l : a := valof { l : goto l } ; goto l }", "label 1,stack 3,label 3,stack 3,jump 3,num 0,result 2,label 2,take 3,putl 2,jump 1")
	wantBody(t, "f(a) be { return ; let b = 1 ; goto l ; let c = b ; l : }", "back 0,num 1,jump 1,local 3,label 1,stack 5,stack 3")
}
