package stack_test

import (
	"strconv"
	"strings"
	"testing"

	"bluebell/api"
	"bluebell/stack"
	"bluebell/word"
)

// around puts instructions into a procedure start that writes the word on top into the global 100; the areas are at 200, 202 and, by 16 bits, 204.
func around(lines string) string {
	return "words 7 -1,text \"AB\",words 70000,entry 1 1,entry 12 2,enter 1 0," + lines + ",putg 100,back 0,enter 2 2,local 3,return 0"
}

// wantWord runs instructions behind which there is a word on top.
func wantWord(t *testing.T, lines string, want int, by ...api.Form) {
	t.Helper()
	if len(by) == 0 {
		by = forms
	}
	for _, f := range by {
		m := start(t, read(t, around(lines)), f, "", 0)
		r := m.Step(plenty)
		if w, _ := m.Peek(100); r.End != api.Done || w != want {
			t.Errorf("%s by %v: %v, %d; want %d", lines, f, r, w, want)
		}
	}
}

// wantFault runs instructions of which one is wrong.
func wantFault(t *testing.T, lines string, why api.Errno, by ...api.Form) {
	t.Helper()
	if len(by) == 0 {
		by = forms
	}
	for _, f := range by {
		r, err := stack.Run(read(t, around(lines)), f, "", plenty)
		if r.Steps = 0; r != faulted("", why) || err != api.OK {
			t.Errorf("%s by %v: %v, error %d; want %d", lines, f, r, err, why)
		}
	}
}

// P8.1
func TestPushing(t *testing.T) {
	wantWord(t, "num 5", 5)
	wantWord(t, "num 70000", 4464, forms[:2]...)
	wantWord(t, "num 70000", 70000, forms[2:]...)
	wantWord(t, "num -2147483648", 0, forms[:4]...)
	wantWord(t, "num -2147483648", -2147483648, forms[4:]...)
	wantWord(t, "num 1,num 2,num 3,local 3", 2)
	wantWord(t, "num 1,num 2,num 3,addrl 3", 8003)
	wantWord(t, "addrl 4000", 12000)
	wantWord(t, "global 12", 32002)
	wantWord(t, "global 11", 32511)
	wantWord(t, "addrg 199", 199)
	wantWord(t, "static 0", 7)
	wantWord(t, "static 1", 0x0241, forms[1])
	wantWord(t, "static 1", 0x4102, forms[0])
	wantWord(t, "static 1", 0x024142, forms[3])
	wantWord(t, "static 2", 4464, forms[:2]...)
	wantWord(t, "addrs 0", 200)
	wantWord(t, "addrs 1", 202)
	wantWord(t, "addrs 2", 204, forms[:2]...)
	wantWord(t, "addrs 2", 203, forms[2:]...)
	wantWord(t, "proc 1", 32001)
	wantWord(t, "proc 2", 32002)
}

// P8.1
func TestWriting(t *testing.T) {
	wantWord(t, "num 1,num 2,num 3,putl 2,local 2", 3)
	wantWord(t, "num 1,num 2,num 3,putl 2,local 3", 2)
	wantWord(t, "num 9,putg 50,global 50", 9)
	wantWord(t, "num 9,putg 3,global 3", 9)
	wantWord(t, "num 9,puts 0,static 0", 9)
	wantWord(t, "num 9,puts 0,addrs 0,num 1,bin add,load 0", -1)
	wantWord(t, "num 70000,puts 0,static 0", 4464, forms[:2]...)
	for _, a := range []int{0, 1, 199, 200, 7999, 8100, 16000, 31999} {
		s := strconv.Itoa(a)
		wantWord(t, "num 6,num "+s+",store 0,num "+s+",load 0", 6)
	}
	for _, a := range []int{-1, 32000, -32768, 32767, -2147483648} {
		if s := strconv.Itoa(a); a >= -32768 {
			wantFault(t, "num 6,num "+s+",store 0,num 1", api.ErrAddress)
			wantFault(t, "num "+s+",load 0", api.ErrAddress)
		} else {
			wantFault(t, "num "+s+",load 0", api.ErrAddress, forms[4:]...)
			wantWord(t, "num "+s+",load 0", 0, forms[:4]...)
		}
	}
}

// P8.1: bytes in both orders, with indexes below 0, too.
func TestBytes(t *testing.T) {
	for i, c := range "\x02AB" {
		wantWord(t, "addrs 1,num "+strconv.Itoa(i)+",getb 0", int(c))
	}
	for _, f := range forms {
		n := f.Bits / 8
		for i := -3 * n; i < 4*n; i++ {
			index := strconv.Itoa(i)
			at := 150 + (i+6*n)/n - 6
			words := []int{0x8182}
			changed, _ := word.PutByte(words, (i+6*n)%n, 0x1ff, f)
			wantWord(t, "num "+strconv.Itoa(0x8182)+",num "+strconv.Itoa(at)+",store 0,num 511,num 150,num "+index+",putb 0,num "+strconv.Itoa(at)+",load 0", changed[0], f)
			wantWord(t, "num 511,num 150,num "+index+",putb 0,num 150,num "+index+",getb 0", 255, f)
			wantWord(t, "num 511,num 150,num "+index+",putb 0,num 150,num "+strconv.Itoa(i^1)+",getb 0", 0, f)
		}
		size, last := strconv.Itoa(n), strconv.Itoa(n-1)
		// The address alone need not be one; where the byte is, it has to be.
		wantWord(t, "num -1,num "+size+",getb 0", 0, f)
		wantWord(t, "num 32000,num -1,getb 0", 0, f)
		wantWord(t, "num 31999,num "+last+",getb 0", 0, f)
		wantWord(t, "num 8,num -1,num "+size+",putb 0,num 0,num 0,getb 0", 8, f)
		for _, lines := range []string{"num -1,num " + last, "num 0,num -1", "num 31999,num " + size, "num 32000,num 0", "num 32767,num 32767", "num -32768,num -32768"} {
			wantFault(t, lines+",getb 0", api.ErrAddress, f)
			wantFault(t, "num 1,"+lines+",putb 0,num 1", api.ErrAddress, f)
		}
	}
	// Not normed on the way: 100 + 32767 / 2 is in memory, and so is -32768 + 65534 / 2 by longer words.
	wantWord(t, "num 100,num 32767,getb 0", 0)
	wantFault(t, "num 30000,num 32767,getb 0", api.ErrAddress)
}

// P8.1: the upper operand is b.
func TestOperators(t *testing.T) {
	names := strings.Fields("mul div rem add sub shl shr and or xor eqv eq ne lt le gt ge neg not")
	for _, f := range forms {
		for i, name := range names {
			for _, ab := range [][2]int{{7, 2}, {-7, 2}, {2, 7}, {300, 300}, {-1, 1}, {5, 5}, {-32768, -1}, {0, 3}} {
				lines := "num " + strconv.Itoa(ab[0]) + ",num " + strconv.Itoa(ab[1]) + ",bin " + name
				a, b := ab[0], ab[1]
				if i+1 >= api.Neg {
					lines, a = "num 9,num "+strconv.Itoa(b)+",un "+name, b
				}
				want, _ := word.Apply(i+1, a, b, f.Bits)
				wantWord(t, lines, want, f)
			}
		}
	}
	wantFault(t, "num 5,num 0,bin div", api.ErrZero)
	wantFault(t, "num 0,num 0,bin rem", api.ErrZero)
	wantFault(t, "num 5,num 65536,bin div", api.ErrZero, forms[:2]...)
	wantWord(t, "num 5,num 65536,bin div", 0, forms[2:]...)
}

// P8.1
func TestJumps(t *testing.T) {
	wantWord(t, "num 1,stack 6,stack 3", 1)
	wantWord(t, "num 1,stack 4,stack 3,num 2,bin add", 3)
	wantWord(t, "num 1,jump 1,num 2,label 2,label 1,stack 3", 1)
	wantWord(t, "num 4,label 1,stack 3,local 2,num 1,bin sub,putl 2,local 2,true 1", 0)
	for _, x := range []struct {
		condition     string
		ifTrue, ifNot int
		by            []api.Form
	}{
		{"0", 6, 5, forms}, {"1", 5, 6, forms}, {"-1", 5, 6, forms}, {"65536", 6, 5, forms[:2]}, {"65536", 5, 6, forms[2:]},
	} {
		wantWord(t, "num 5,num "+x.condition+",true 1,num 6,putl 2,label 1,stack 3", x.ifTrue, x.by...)
		wantWord(t, "num 5,num "+x.condition+",false 1,num 6,putl 2,label 1,stack 3", x.ifNot, x.by...)
	}
	wantWord(t, "num 1,num 2,num 5,result 1,label 2,label 1,take 3,bin sub", -4)
	wantWord(t, "num 1,num 2,num 5,result 1,label 1,take 5,stack 6", 5)
	wantWord(t, "num 1,num 3,result 1,label 1,take 3,num 5,result 2,label 2,take 4,bin mul,bin sub", -14)
}

// P8.1: the first case that is the word, and otherwise the label.
func TestSwitches(t *testing.T) {
	const tail = ",label 1,stack 2,num 10,jump 9,label 2,stack 2,num 20,jump 9,label 3,stack 2,num 30,jump 9,label 4,stack 2,num 40,label 9,stack 3"
	for v, want := range map[string]int{"5": 10, "6": 20, "-1": 30, "0": 40, "7": 40} {
		wantWord(t, "num "+v+",switch 4 5,case 5 1,case 6 2,case 5 3,case -1 3,case 6 4"+tail, want)
		wantWord(t, "num "+v+",switch 2 0"+tail, 20)
	}
	const ofWord, ofCase = "num 65541,switch 4 2,case 5 1,case 65541 3", "num 5,switch 4 2,case 65541 1,case 5 2"
	wantWord(t, ofWord+tail, 10, forms[:2]...)
	wantWord(t, ofWord+tail, 30, forms[2:]...)
	wantWord(t, ofCase+tail, 10, forms[:2]...)
	wantWord(t, ofCase+tail, 20, forms[2:]...)
}
