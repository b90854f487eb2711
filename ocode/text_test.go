package ocode_test

import (
	"fmt"
	"strings"
	"testing"

	"bluebell/api"
	"bluebell/ocode"
)

// wantText checks that code has a text, and that the text has the code.
func wantText(t *testing.T, c api.Code, want string) {
	t.Helper()
	if s, err := ocode.Text(c); s != want || err != api.OK {
		t.Errorf("Text(%v) = %q, error %d; want %q", c, s, err, want)
	}
	if back, err, line := ocode.Read(want); !ocode.Same(back, c) || err != api.OK || line != 0 {
		t.Errorf("Read(%q) = %v, error %d in line %d; want %v", want, back, err, line, c)
	}
}

// wantRefused checks that a text is refused with an error and the number of a line.
func wantRefused(t *testing.T, s string, want api.Errno, wantLine int) {
	t.Helper()
	if c, err, line := ocode.Read(s); err != want || line != wantLine || !ocode.Same(c, api.Code{}) {
		t.Errorf("Read(%.300q) = %v, error %d in line %d; want error %d in line %d", s, c, err, line, want, wantLine)
	}
}

// P6.2: every instruction.
func TestTextOfInstructions(t *testing.T) {
	lines := []string{
		"enter 1 2", "num -2147483648", "local 2", "putl 3", "addrl 2", "global 0", "putg 1", "addrg 199", "static 0", "puts 1", "addrs 2", "proc 1", "load 0", "getb 0", "num 7", "num 8", "num 9", "putb 0", "num 5", "store 0",
		"stack 9", "true 3", "false 3", "call 2", "jump 3", "label 3", "stack 4", "switch 3 2", "case -1 3", "case 2147483647 5", "label 5", "label 2", "stack 3", "result 1", "label 1", "take 3", "return 0", "enter 2 0", "back 0",
	}
	wantText(t, assemble(strings.Join(lines, ",")), "code \"c\"\nwords 1\ntext \"\"\nwords 2 3\n"+strings.Join(lines, "\n")+"\nend\n")
}

// P6.2: every operator.
func TestTextOfOperators(t *testing.T) {
	lines := []string{"enter 1 8", "stack 40"}
	for i, name := range strings.Fields(operatorNames) {
		if i+1 < api.Neg {
			lines = append(lines, "bin "+name)
			wantRefused(t, "code \"\"\nenter 1 8\nun "+name+"\nback 0\nend\n", api.ErrCode, 3)
		} else {
			lines = append(lines, "un "+name)
			wantRefused(t, "code \"\"\nenter 1 8\nbin "+name+"\nback 0\nend\n", api.ErrCode, 3)
		}
	}
	lines = append(lines, "back 0")
	wantText(t, assemble(strings.Join(lines, ",")), "code \"c\"\nwords 1\ntext \"\"\nwords 2 3\n"+strings.Join(lines, "\n")+"\nend\n")
}

// P6.2: names, areas and entries.
func TestTextOfTheRest(t *testing.T) {
	wantText(t, api.Code{}, "code \"\"\nend\n")
	wantText(t, api.Code{Name: "a*\"\n\t'b "}, "code \"a***\"*n*t'b \"\nend\n")
	wantText(t, api.Code{Data: []api.Data{{Words: []int{0}}, {IsText: true, Text: "\"words 1*n\"\n"}, {Words: []int{-1 << 31, -1, 1<<31 - 1}}, {IsText: true}}}, "code \"\"\nwords 0\ntext \"*\"words 1**n*\"*n\"\nwords -2147483648 -1 2147483647\ntext \"\"\nend\n")
	long := strings.Repeat("*", 100)
	wantText(t, api.Code{Name: long, Data: []api.Data{{IsText: true, Text: long}}}, "code \""+long+long+"\"\ntext \""+long+long+"\"\nend\n")
	c := assemble("enter 1, back, enter 2 8, local 9, return")
	c.Name, c.Data, c.Globals = "end", nil, []api.Entry{{Global: 199, Proc: 1}, {Global: 1, Proc: 2}, {Global: 12, Proc: 2}}
	wantText(t, c, "code \"end\"\nentry 199 1\nentry 1 2\nentry 12 2\nenter 1 0\nback 0\nenter 2 8\nlocal 9\nreturn 0\nend\n")
}

// P6.2: the greatest numbers of procedures and labels, with gaps between labels.
func TestReadCounts(t *testing.T) {
	c, err, _ := ocode.Read("code \"\"\nenter 1 0\njump 7\nlabel 7\nstack 2\nback 0\nlabel 20000\nlabel 3\nstack 2\nback 0\nenter 2 0\nback 0\nend\n")
	if err != api.OK || c.Procs != 2 || c.Labels != 20000 {
		t.Errorf("%v, error %d", c, err)
	}
}

// P6.2: lines that are not as said; those before and behind them are.
func TestLinesThatAreRefused(t *testing.T) {
	for _, line := range []string{
		"", " ", "foo", "foo 1", "1", "num", "num ", "num  1", " num 1", "num 1 ", "num 1 0", "num\t1", "num 1\r", "num +1", "num 01", "num -0", "num -01", "num 1_0", "num 0x1", "num 1.0", "num a", "num --1", "num 9223372036854775808", "num -9223372036854775809", "num 99999999999999999999999", "num １",
		"NUM 1", "Num 1", "numb 1", "load", "load 0 0", "store", "getb", "putb", "return", "back", "back0", "bin", "bin ", "bin 4", "bin Add", "bin add ", "bin add 0", "bin neg", "bin not", "un add", "un 18", "un", "un not 0", "bin add add",
		"enter 1", "enter 1 ", "enter 1 0 0", "enter  1 0", "enter 1 00", "switch 1", "switch 1 1 1", "case 1", "case 1 1 1", "case 1 x", "label", "label 1 1", "stack 2 0", "call 2 0", "jump 1 0", "end ", "end 1", "End", "code", "code \"\"", "code \"c\"", "// num 1", "num 1 // 1", "num 1;",
		"text \"\"", "words 1", "entry",
	} {
		wantRefused(t, "code \"c\"\nwords 4\nentry 1 1\nenter 1 2\n"+line+"\nback 0\nend\n", api.ErrCode, 5)
		wantRefused(t, "code \"c\"\nenter 1 2\n"+line+"\n", api.ErrCode, 3)
	}
	for _, line := range []string{
		"text", "text ", "text a", "text \"", "text \"a", "text a\"", "text  \"a\"", "text \"a\" ", "text \"a\" \"b\"", "text \"a\"\"b\"", "text \"*\"", "text \"*s\"", "text \"*'\"", "text \"*N\"", "text \"a\tb\"", "text \"a\x7f\"", "text \"ä\"", "text 'a'", "text 1", "text \"a\"//b", "text \"" + strings.Repeat("x", 101) + "\"", "text \"" + strings.Repeat("x", 50000) + "\"",
		"words", "words ", "words 1 ", "words  1", "words 1  2", "words 1 x", "words 01", "words -0", "words +1", "words 1,2", "words 9223372036854775808", "word 1", "words \"1\"",
		"entry", "entry ", "entry 1", "entry 1 ", "entry 1 1 1", "entry 1  1", "entry 01 1", "entry 1 -0", "entry a 1", "entries 1 1", "code \"c\"", "code",
	} {
		wantRefused(t, "code \"c\"\ntext \"a\"\n"+line+"\nentry 1 1\nenter 1 2\nback 0\nend\n", api.ErrCode, 3)
	}
	for _, line := range []string{"", "code", "code ", "code c", "code  \"c\"", "code \"c\" ", " code \"c\"", "code \"c", "code \"*s\"", "code \"c\" \"\"", "code \"" + strings.Repeat("x", 101) + "\"", "end", "text \"c\"", "words 1", "entry 1 1", "enter 1 0", "Code \"c\"", "code \"\x00\"", "name \"c\""} {
		wantRefused(t, line+"\nenter 1 0\nback 0\nend\n", api.ErrCode, 1)
	}
}

// P6.2: lines that are missing, and lines that are too many.
func TestLinesThatAreMissing(t *testing.T) {
	whole := "code \"c\"\nwords 1\nentry 1 1\nenter 1 0\nback 0\nend\n"
	if _, err, _ := ocode.Read(whole); err != api.OK {
		t.Fatalf("Read of the whole: %d", err)
	}
	for i := range whole {
		wantRefused(t, whole[:i], api.ErrCode, 1+strings.Count(whole[:i], "\n"))
	}
	for _, more := range []string{"\n", " ", "x", "end\n", "end", "\x00", "code \"c\"\nend\n", "num 1\n"} {
		wantRefused(t, whole+more, api.ErrCode, 7)
	}
	wantRefused(t, strings.ReplaceAll(whole, "\n", "\r\n"), api.ErrCode, 1)
	wantRefused(t, "\n"+whole, api.ErrCode, 1)
}

// P6.2: the parts of a text stand in their order; areas may be mixed, and so may instructions.
func TestOrderOfLines(t *testing.T) {
	for lines, want := range map[string]int{
		"text \"a\",code \"\",enter 1 0,back 0,end": 1, "end,code \"\"": 1, "code \"\",code \"\",end": 2, "code \"\",entry 1 1,words 1,enter 1 0,back 0,end": 3, "code \"\",words 1,entry 1 1,text \"\",enter 1 0,back 0,end": 4,
		"code \"\",enter 1 0,entry 1 1,back 0,end": 3, "code \"\",enter 1 0,back 0,words 1,end": 4, "code \"\",enter 1 0,back 0,text \"a\",end": 4, "code \"\",enter 1 0,back 0,end,entry 1 1": 5, "code \"\",end,enter 1 0,back 0": 3, "code \"\",words 1,code \"\",end": 3, "code \"\",back 0,enter 1 0,end": 0,
	} {
		wantRefused(t, strings.ReplaceAll(lines, ",", "\n")+"\n", api.ErrCode, want)
	}
	for _, lines := range []string{"code \"\",words 1,text \"\",words 2,end", "code \"\",enter 1 0,back 0,end", "code \"\",text \"\",enter 1 0,back 0,end", "code \"\",entry 2 1,entry 1 1,enter 1 0,back 0,end"} {
		if _, err, line := ocode.Read(strings.ReplaceAll(lines, ",", "\n") + "\n"); err != api.OK || line != 0 {
			t.Errorf("Read of %s: error %d in line %d", lines, err, line)
		}
	}
}

// P6.2: Check's errors, told with 0; a line that is not as said comes before them.
func TestReadChecks(t *testing.T) {
	for text, want := range map[string]api.Errno{
		"num 1": api.ErrCode, "enter 1 0\nnum 1": api.ErrCode, "enter 1 0\nnum 2147483648\nback 0": api.ErrCode, "enter 1 0\nnum 9223372036854775807\nback 0": api.ErrCode, "enter 1 0\nback 1": api.ErrCode, "enter 1 0\nstack 4001\nback 0": api.ErrCode, "enter -1 0\nback 0": api.ErrCode, "label -5\nstack 2": api.ErrCode,
		"entry 1 1": api.ErrCode, "words 2147483648": api.ErrCode, "enter 1 0\nbin add\nback 0": api.ErrStack, "enter 1 0\nlocal 2\nreturn 0": api.ErrStack, "enter 201 0\nback 0": api.ErrLimit, "enter 1 0\nlabel 20001\nstack 2\nback 0": api.ErrLimit,
		"words 1" + strings.Repeat(" 1", api.StaticSize): api.ErrLimit, strings.Repeat("words 1\n", 2000) + "words 1": api.ErrLimit, strings.Repeat("stack 2\n", api.MaxOps) + "back 0": api.ErrLimit,
	} {
		wantRefused(t, "code \"\"\n"+text+"\nend\n", want, 0)
		wantRefused(t, "code \"\"\n"+text+"\nend", api.ErrCode, 2+strings.Count(text+"\n", "\n"))
		wantRefused(t, "code \"\"\n"+text+"\nfoo\nend\n", api.ErrCode, 2+strings.Count(text+"\n", "\n"))
	}
}

// P6.2, P6.6: texts of random codes are read, and only texts that Text makes.
func TestTextsComeBack(t *testing.T) {
	overCodes(1, 600, func(m *maker, c api.Code) {
		s, err := ocode.Text(c)
		if err != api.OK {
			t.Fatalf("Text(%v): %d", c, err)
		}
		back, err, line := ocode.Read(s)
		if !ocode.Same(back, c) || err != api.OK || line != 0 {
			t.Fatalf("Read(%s): %v, error %d in line %d; want %v", s, back, err, line, c)
		}
		if again, err := ocode.Text(back); again != s || err != api.OK {
			t.Fatalf("Text again: %s, error %d; want %s", again, err, s)
		}
	})
}

// P6.2: changed texts, held against a reading line by line.
func TestReadReference(t *testing.T) {
	counts := map[string]int{}
	overCodes(1000, 1500, func(m *maker, c api.Code) {
		s, _ := ocode.Text(c)
		for range 1 + m.Intn(2) {
			s = m.changedText(s)
		}
		want, wantErr, wantLine := readReference(s)
		got, err, line := ocode.Read(s)
		if !ocode.Same(got, want) || err != wantErr || line != wantLine {
			t.Fatalf("Read(%s):\n%v, error %d in line %d; want\n%v, error %d in line %d", s, got, err, line, want, wantErr, wantLine)
		}
		if err == api.OK {
			if again, err := ocode.Text(got); again != s || err != api.OK {
				t.Fatalf("Text of Read(%s): %s, error %d", s, again, err)
			}
		}
		counts[fmt.Sprint(err, min(line, 1))]++
	})
	for _, end := range []string{"0 0", "60 0", "60 1", "61 0"} {
		if counts[end] < 30 {
			t.Errorf("only %d texts end with %s", counts[end], end)
		}
	}
}
