package ocode_test

import (
	"fmt"
	"math"
	"strings"
	"testing"

	"bluebell/api"
	"bluebell/ocode"
)

// inside puts instructions into a procedure, in which the depth is 4 before them; behind them it may be any.
func inside(list ...string) []string {
	texts := make([]string, len(list))
	for i, s := range list {
		texts[i] = "enter 1 2, " + s + ", back"
	}
	return texts
}

// wantNumbers checks an instruction, with a number of it in the place of the #, at the ends of what is allowed.
func wantNumbers(t *testing.T, form string, least, most int, err api.Errno) {
	t.Helper()
	for _, n := range []int{math.MinInt, least - 1<<32, least - 1, least, least + 1, (least + most) / 2, most - 1, most, most + 1, most + 1<<32, math.MaxInt} {
		want := err
		if n >= least && n <= most {
			want = api.OK
		}
		wantCheck(t, want, strings.ReplaceAll(form, "#", fmt.Sprint(n)))
	}
}

// P6.1: code that is valid.
func TestValid(t *testing.T) {
	wantCheckOf(t, api.OK, "nothing", api.Code{})
	wantCheckOf(t, api.OK, "empty lists", api.Code{Data: []api.Data{}, Ops: []api.Op{}, Globals: []api.Entry{}})
	wantCheckOf(t, api.OK, "areas alone", api.Code{Data: []api.Data{{Words: []int{7}}}})
	wantCheck(t, api.OK, "enter 1, back", "enter 1 8, back", "enter 1 0, num 5, return", "enter 1, back, enter 2 3, local 4, return", "enter 1, stack 4, num 65, global 3, call 2, stack 2, back", "enter 1, stack 4, proc 2, call 2, return, enter 2, back")
	wantCheck(t, api.OK, inside("label 1, stack 4, jump 1", "jump 1, label 1, label 2, label 3, stack 9", "true 7, num 1, label 7, stack 4", "false 2, label 2, stack 4, jump 2", "num 5, result 1, label 1, take 4", "result 1, label 3, label 1, take 4, result 3, label 2, stack 2", "jump 9, label 4, stack 4, label 9, stack 4, jump 4, label 6, stack 4")...)
	wantCheck(t, api.OK, inside("switch 1 0, label 1, stack 4", "switch 1 2, case 5 1, case -3 1, label 1, stack 4", "switch 1 1, case 5 2, label 2, stack 4, switch 2 1, case 5 1, label 1, stack 4", "label 1, stack 4, switch 1 2, case 0 1, case 0 1")...)
	wantCheck(t, api.OK, "enter 1, label 1, stack 3, switch 1 1, case 1 1", "enter 1, label 1, stack 3, switch 1 0", "enter 1, label 1, stack 2, jump 1", "enter 1 1, result 1, label 1, take 2, result 1", "enter 1, num 1, result 1, label 1, take 2, jump 2, label 2, stack 2, back, enter 2, num 1, return")
	wantCheck(t, api.OK, inside("bin add", "bin ge", "un neg", "un not", "load", "store, num 1, num 2", "getb", "num 1, putb, num 7", "putg 3", "puts 2", "putl 2", "putl 3", "addrl 2", "addrl 4000", "addrs 0", "static 2, putg 0, addrg 199", "proc 1, num 4, bin eq")...)
}

// P6.1: dead code may stand behind what does not go on; its depth is counted on.
func TestDeadCode(t *testing.T) {
	wantCheck(t, api.OK, inside("jump 1, num 5, bin add, label 1, stack 4", "return, num 3", "back, num 5, putl 3", "return, num 5, return", "result 1, num 5, back, label 1, take 2", "switch 1 0, num 4, label 1, stack 4", "switch 1 1, case 3 1, load, label 1, stack 2", "back, take 3", "jump 1, take 2, label 1, stack 4", "return, take 3, bin mul, label 1, stack 3")...)
	wantCheck(t, api.ErrStack, inside("return, bin add", "jump 1, putb, label 1, stack 4", "result 1, store, label 1, take 2", "switch 1 0, getb, label 1, stack 4", "back, stack 1", "return, local 3", "return, num 1, take 2", "return, num 1, label 1, take 2", "back, stack 2007")...)
	wantCheck(t, api.ErrCode, "enter 1, back, num 1", "enter 1, back, num 1, enter 2, back", "enter 1, back, label 1, stack 2")
}

// P6.1, ErrLimit: at the limits, and beyond them.
func TestLimits(t *testing.T) {
	many := func(n int, first, next, last string) string {
		return first + strings.Repeat(","+next, n) + "," + last
	}
	wantCheck(t, api.OK, many(api.MaxOps-2, "enter 1", "stack 2", "back"))
	wantCheck(t, api.ErrLimit, many(api.MaxOps-1, "enter 1", "stack 2", "back"))
	labels := func(n int) string {
		var b strings.Builder
		b.WriteString("enter 1")
		for l := n; l > 0; l-- {
			fmt.Fprint(&b, ",label ", l)
		}
		return b.String() + ",stack 2,back"
	}
	wantCheck(t, api.OK, labels(20000), "enter 1, label 20000, stack 2, back")
	wantCheck(t, api.ErrLimit, labels(20001), "enter 1, label 20001, stack 2, back")
	procs := func(n int) api.Code {
		var b []string
		for p := range n {
			b = append(b, fmt.Sprint("enter ", p+1), "back")
		}
		return assemble(strings.Join(b, ","))
	}
	wantCheckOf(t, api.OK, "200 procedures", procs(200))
	wantCheckOf(t, api.ErrLimit, "201 procedures", procs(201))
	for _, c := range []api.Code{{Procs: 201}, {Labels: 20001}, {Procs: math.MaxInt}, {Labels: math.MaxInt}, {Data: make([]api.Data, 2001)}, {Ops: make([]api.Op, api.MaxOps+1)}, {Ops: assemble(labels(20001)).Ops}, {Ops: procs(201).Ops}} {
		wantCheckOf(t, api.ErrLimit, "too much", c)
	}
	for _, c := range []api.Code{{Procs: 200}, {Labels: 20000}, {Data: make([]api.Data, 2000)}, {Ops: make([]api.Op, api.MaxOps)}} {
		wantCheckOf(t, api.ErrCode, "not too much", c)
	}
}

// P6.1, ErrLimit: words of areas, counted as by 16 bits.
func TestLimitOfWords(t *testing.T) {
	words := func(n int) api.Data { return api.Data{Words: make([]int, n)} }
	text := func(n int) api.Data { return api.Data{Text: strings.Repeat("x", n), IsText: true} }
	for _, x := range []struct {
		areas []api.Data
		words int
	}{
		{[]api.Data{text(0)}, 1}, {[]api.Data{text(1)}, 1}, {[]api.Data{text(2)}, 2}, {[]api.Data{text(3)}, 2}, {[]api.Data{text(99)}, 50}, {[]api.Data{text(100)}, 51}, {[]api.Data{text(1), text(2), words(3)}, 6},
	} {
		wantCheckOf(t, api.OK, "words that just fit", api.Code{Data: append(x.areas, words(api.StaticSize-x.words))})
		wantCheckOf(t, api.ErrLimit, "words that do not fit", api.Code{Data: append(x.areas, words(api.StaticSize-x.words+1))})
	}
	wantCheckOf(t, api.OK, "as many words as there may be", api.Code{Data: []api.Data{words(api.StaticSize)}})
	wantCheckOf(t, api.ErrLimit, "a word too many", api.Code{Data: []api.Data{words(api.StaticSize + 1)}})
	wantCheckOf(t, api.ErrLimit, "a text that is far too long", api.Code{Data: []api.Data{text(2 * api.StaticSize)}})
}

// P6.1, ErrCode: numbers of instructions.
func TestNumbers(t *testing.T) {
	for _, x := range []struct {
		form        string
		least, most int
	}{
		{"num #, back", -1 << 31, 1<<31 - 1}, {"global #, back", 0, 199}, {"putg #, back", 0, 199}, {"addrg #, back", 0, 199}, {"static #, back", 0, 2}, {"puts #, back", 0, 2}, {"addrs #, back", 0, 2}, {"proc #, back", 1, 2},
		{"bin #, back", api.Mul, api.Ge}, {"un #, back", api.Neg, api.Not}, {"switch 1 1, case # 1, label 1, stack 4, back", -1 << 31, 1<<31 - 1},
		{"load #, back", 0, 0}, {"store #, num 1, num 1, back", 0, 0}, {"getb #, back", 0, 0}, {"num 1, putb #, num 1, back", 0, 0}, {"return #", 0, 0}, {"back #", 0, 0},
	} {
		wantNumbers(t, "enter 1 2, "+x.form+", enter 2, back", x.least, x.most, api.ErrCode)
	}
	wantNumbers(t, "enter 1 #, back", 0, 8, api.ErrCode)
	for _, s := range []string{"num 1 #", "local 2 #", "putl 2 #", "addrl 2 #", "global 1 #", "putg 1 #", "addrg 1 #", "static 1 #", "puts 1 #", "addrs 1 #", "proc 1 #", "load 0 #", "store 0 #, num 1, num 1", "getb 0 #", "num 1, putb 0 #, num 1", "bin add #", "un neg #", "stack 4 #", "label 1 #, stack 4", "jump 2 #", "true 2 #", "false 2 #", "num 1, call 2 #", "return 0 #", "back 0 #", "result 3 #, back", "back, label 1, take 3 #"} {
		wantNumbers(t, "enter 1 2, "+s+", jump 2, label 2, stack 4, num 1, result 3, label 3, take 2, back", 0, 0, api.ErrCode)
	}
}

// P6.1, ErrCode: locals and depths beyond 0 to 4000; those within may be ErrStack.
func TestLocalsAndDepths(t *testing.T) {
	for _, s := range []string{"local", "putl", "addrl", "num 1, call", "stack", "jump 1, label 1, stack", "back, take", "back, label 1, take"} {
		for _, n := range []int{math.MinInt, -1 << 31, -1, 4001, 1 << 31, math.MaxInt} {
			wantCheck(t, api.ErrCode, inside(fmt.Sprint(s, " ", n))...)
		}
		wantCheck(t, api.ErrStack, inside(s+" 0")...)
	}
	wantCheck(t, api.ErrStack, inside("local 4000", "putl 4000", "num 1, call 4000", "stack 4000", "back, take 4000", "local 1", "putl 1", "addrl 1", "num 1, call 1", "stack 1")...)
	wantCheck(t, api.OK, inside("addrl 4000", "jump 1, label 1, stack 4000", "back, take 3999", "back, take 1", "addrl 2", "stack 2")...)
}

// P6.1, ErrCode: ops that are none.
func TestOpsThatAreNone(t *testing.T) {
	for _, op := range []int{math.MinInt, -1, 0, 31, 32, 100, math.MaxInt} {
		for i := range 3 {
			c := assemble("enter 1 2, stack 4, back")
			c.Ops[i] = api.Op{Op: op}
			wantCheckOf(t, api.ErrCode, fmt.Sprint("the op ", op), c)
		}
	}
}

// P6.1, ErrCode: switches and their cases.
func TestCases(t *testing.T) {
	wantCheck(t, api.ErrCode, inside("switch 1 1, label 1, stack 4", "switch 1 2, case 1 1, label 1, stack 4", "switch 1 1, case 1 1, case 2 1, label 1, stack 4", "switch 1 0, case 1 1, label 1, stack 4", "case 1 1, label 1, stack 4", "label 1, case 1 1, stack 4", "switch 1 2, case 1 1, num 3, case 2 1, label 1, stack 4", "switch 1 1, switch 1 1, case 1 1, case 2 1, label 1, stack 4", "jump 1, case 1 1, label 1, stack 4", "switch 1 -1, label 1, stack 4")...)
	wantCheck(t, api.ErrCode, "enter 1, label 1, stack 3, switch 1 1", "enter 1, label 1, stack 3, switch 1 2, case 1 1", "enter 1, label 1, stack 3, switch 1 1, enter 2, back", "enter 1, label 1, stack 3, switch 1 0, case 1 1", "case 1 1, enter 1, label 1, stack 2, back")
	many := func(said, are int) string {
		return fmt.Sprint("enter 1, label 1, stack 3, switch 1 ", said) + strings.Repeat(", case 7 1", are)
	}
	wantCheck(t, api.OK, many(1000, 1000), many(999, 999))
	wantCheck(t, api.ErrCode, many(1001, 1001), many(1000, 999), many(1000, 1001), many(1<<32+3, 3), many(-1, 0))
}

// P6.1, ErrCode: labels that are twice, missing, elsewhere, or not followed as said.
func TestLabels(t *testing.T) {
	for _, named := range []string{"jump #", "true #", "false #", "switch # 0", "switch # 1, case 3 2", "switch 2 1, case 3 #"} {
		for _, label := range []string{"1", "4", "0", "-1", "5", "20001", "4294967298"} { // 1 is elsewhere, 4 is not there
			wantCheck(t, api.ErrCode, "enter 1, back, label 1, stack 2, back, enter 2 2, "+strings.ReplaceAll(named, "#", label)+", label 2, stack 4, label 3, stack 4, back, label 5, stack 2, back, enter 3, back, label 5, stack 2, back", "enter 1, back, label 1, stack 2, back, enter 2 2, "+strings.ReplaceAll(named, "#", label)+", label 2, stack 4, label 3, stack 4, back, enter 3, back, label 5, stack 2, back")
		}
		wantCheck(t, api.OK, inside(strings.ReplaceAll(named, "#", "3")+", label 2, stack 4, label 3, stack 4")...)
	}
	wantCheck(t, api.ErrCode, inside("result 1", "result 2, label 1, take 4", "result 0", "label 1, stack 4, label 1, stack 4", "label 1, label 1, stack 4", "label 0, stack 4", "label -1, stack 4, label 1, stack 4")...)
	wantCheck(t, api.ErrCode, "enter 1, result 1, label 2, take 3, back, enter 2, back, label 1, take 3, back", "enter 1, label 1, stack 2, back, enter 2, label 1, stack 2, back")
	wantCheck(t, api.ErrCode, inside("label 1", "label 1, num 5", "label 1, local 3", "label 1, jump 1", "label 1, call 2", "label 1, label 2", "label 2, label 1, num 1, stack 4", "stack 4, label 1, num 1", "label 1, back")...)
	wantCheck(t, api.ErrCode, "enter 1, label 1", "enter 1, label 1, enter 2, stack 2, back", "enter 1, back, label 1, enter 2, back", "label 1, enter 1, back")
}

// P6.1, ErrCode: procedures in their order, from the beginning to where code does not go on.
func TestProcedures(t *testing.T) {
	wantCheck(t, api.ErrCode, "enter 2, back", "enter 0, back", "enter 2, back, enter 1, back", "enter 1, back, enter 1, back", "enter 1, back, enter 3, back", "enter 1, back, enter 2, back, enter 4, back", "back, enter 1, back", "stack 2, back", "back", "num 5, return", "label 1, stack 2, back")
	for _, s := range []string{"num 5", "local 2", "putl 2", "load", "bin add", "un neg", "stack 4", "proc 1, call 2", "true 1", "false 1", "back, label 1", "back, take 3", "switch 1 1", "num 1, store", "putg 1", "jump 1, num 3", "return, stack 4"} {
		wantCheck(t, api.ErrCode, "enter 1 2, num 1, label 1, stack 4, "+s, "enter 1 2, num 1, label 1, stack 4, "+s+", enter 2, back")
	}
	wantCheck(t, api.ErrCode, "enter 1", "enter 1, enter 2, back", "enter 1, back, enter 2")
	for _, s := range []string{"jump 1", "return", "back", "switch 1 0", "switch 1 2, case 1 1, case 2 1"} {
		wantCheck(t, api.OK, "enter 1 2, label 1, stack 4, "+s, "enter 1 2, label 1, stack 4, "+s+", enter 2, back")
	}
	wantCheck(t, api.OK, "enter 1 2, result 1, label 1, take 4, result 1, enter 2, back")
}

// P6.1, ErrCode: the greatest numbers, and the name.
func TestCountsAndName(t *testing.T) {
	for _, change := range []func(c *api.Code){
		func(c *api.Code) { c.Procs = 1 }, func(c *api.Code) { c.Procs = 3 }, func(c *api.Code) { c.Procs = 0 }, func(c *api.Code) { c.Procs = -1 }, func(c *api.Code) { c.Procs = math.MinInt },
		func(c *api.Code) { c.Labels = 3 }, func(c *api.Code) { c.Labels = 5 }, func(c *api.Code) { c.Labels = 0 }, func(c *api.Code) { c.Labels = -1 }, func(c *api.Code) { c.Labels = math.MinInt },
		func(c *api.Code) { c.Name = "\x00" }, func(c *api.Code) { c.Name = "a\x7f" }, func(c *api.Code) { c.Name = "\r" }, func(c *api.Code) { c.Name = strings.Repeat("x", 101) }, func(c *api.Code) { c.Name = "ä" },
	} {
		c := assemble("enter 1, back, label 4, stack 2, back, enter 2, back, label 2, stack 2, back")
		wantCheckOf(t, api.OK, "code before its change", c)
		change(&c)
		wantCheckOf(t, api.ErrCode, fmt.Sprintf("Procs %d, Labels %d, Name %.20q", c.Procs, c.Labels, c.Name), c)
	}
	for _, c := range []api.Code{{Procs: 1}, {Procs: -1}, {Labels: 1}, {Labels: -1}, {Name: "\x01"}} {
		wantCheckOf(t, api.ErrCode, "nothing, with a wrong count or name", c)
	}
	for _, c := range []api.Code{{Name: ""}, {Name: strings.Repeat("*", 100)}, {Name: " a\n\t\"~"}} {
		wantCheckOf(t, api.OK, "nothing, with a name", c)
	}
}

// P6.1, ErrCode: areas.
func TestAreas(t *testing.T) {
	text := func(s string, words ...int) api.Data { return api.Data{Text: s, IsText: true, Words: words} }
	for _, d := range []api.Data{
		text(strings.Repeat("x", 101)), text("\x00"), text("a\x7fb"), text("\r"), text("ä"), text("", 0), text("a", 1, 2), {}, {Words: []int{}}, {Text: "a"}, {Text: "a", Words: []int{1}}, {Text: "a", Words: []int{}}, {Words: make([]int, 0, 4)},
		{Words: []int{1 << 31}}, {Words: []int{0, -1<<31 - 1}}, {Words: []int{math.MaxInt, 0}}, {Words: []int{math.MinInt}},
	} {
		for _, areas := range [][]api.Data{{d}, {text("a"), d}, {d, {Words: []int{1}}}} {
			wantCheckOf(t, api.ErrCode, fmt.Sprint("areas ", areas), api.Code{Data: areas})
		}
	}
	for _, d := range []api.Data{text(""), text(" \"*'~\n\t"), text(strings.Repeat("\n", 100)), {Text: "", IsText: true, Words: []int{}}, {Words: []int{0}}, {Words: []int{-1 << 31, 1<<31 - 1}}} {
		wantCheckOf(t, api.OK, fmt.Sprint("area ", d), api.Code{Data: []api.Data{d}})
	}
	c := assemble("enter 1, static 3, return")
	wantCheckOf(t, api.ErrCode, "the fourth of three areas", c)
	c.Data = append(c.Data, api.Data{Words: []int{1}})
	wantCheckOf(t, api.OK, "the fourth of four areas", c)
	c.Data = nil
	wantCheckOf(t, api.ErrCode, "the fourth of no areas", c)
}

// P6.1, ErrCode: entries.
func TestEntries(t *testing.T) {
	for _, x := range []struct {
		entries []api.Entry
		want    api.Errno
	}{
		{[]api.Entry{{Global: 1, Proc: 1}}, api.OK}, {[]api.Entry{{Global: 199, Proc: 2}, {Global: 1, Proc: 2}, {Global: 12, Proc: 1}}, api.OK},
		{[]api.Entry{{Global: 0, Proc: 1}}, api.ErrCode}, {[]api.Entry{{Global: -1, Proc: 1}}, api.ErrCode}, {[]api.Entry{{Global: 200, Proc: 1}}, api.ErrCode}, {[]api.Entry{{Global: math.MaxInt, Proc: 1}}, api.ErrCode}, {[]api.Entry{{Global: math.MinInt, Proc: 1}}, api.ErrCode},
		{[]api.Entry{{Global: 5, Proc: 0}}, api.ErrCode}, {[]api.Entry{{Global: 5, Proc: 3}}, api.ErrCode}, {[]api.Entry{{Global: 5, Proc: -1}}, api.ErrCode}, {[]api.Entry{{Global: 6, Proc: 1}, {Global: 5, Proc: math.MaxInt}}, api.ErrCode},
		{[]api.Entry{{Global: 5, Proc: 1}, {Global: 5, Proc: 1}}, api.ErrCode}, {[]api.Entry{{Global: 5, Proc: 1}, {Global: 6, Proc: 1}, {Global: 5, Proc: 2}}, api.ErrCode},
	} {
		c := assemble("enter 1, back, enter 2, back")
		c.Globals = x.entries
		wantCheckOf(t, x.want, fmt.Sprint("entries ", x.entries), c)
	}
	wantCheckOf(t, api.ErrCode, "an entry without procedures", api.Code{Globals: []api.Entry{{Global: 1, Proc: 0}}})
}

// P6.1, ErrStack: what instructions take is there, above the link.
func TestDepthsThatFall(t *testing.T) {
	for _, x := range []struct {
		s     string
		takes int
	}{
		{"bin add", 2}, {"getb", 2}, {"store", 2}, {"putb", 3}, {"putg 1", 1}, {"puts 1", 1}, {"load", 1}, {"un not", 1}, {"true 1", 1}, {"false 1", 1}, {"return", 1}, {"result 2", 1}, {"switch 1 0", 1}, {"switch 1 1, case 1 1", 1}, {"call 2", 3}, {"back", 0}, {"jump 1", 0}, {"stack 2", 0}, {"addrl 2", 0}, {"static 1", 0},
	} {
		for params := range 6 {
			want := api.OK
			if params < x.takes {
				want = api.ErrStack
			}
			wantCheck(t, want, fmt.Sprintf("enter 1 %d, %s, jump 1, label 1, stack 2, back, label 2, take 3, back", params, x.s))
		}
	}
}

// P6.1, ErrStack: depths above 4000.
func TestDepthsThatRise(t *testing.T) {
	high := "enter 1, jump 1, label 1, stack 3999, num 1, "
	wantCheck(t, api.OK, high+"back", high+"putl 3999, num 1, stack 4000, un neg, bin add, global 2, back", high+"back, label 2, take 3999, back", high+"jump 2, label 2, stack 4000, back")
	for _, s := range []string{"num 1", "local 2", "addrl 2", "global 1", "addrg 1", "static 1", "addrs 1", "proc 1"} {
		wantCheck(t, api.ErrStack, high+s+", back")
		wantCheck(t, api.OK, high+"putg 1, "+s+", back")
	}
	wantCheck(t, api.ErrStack, high+"back, take 4000, back", high+"result 2, label 2, take 4000, back")
}

// P6.1, ErrStack: locals that are there.
func TestLocalsThatAreThere(t *testing.T) {
	for params := range 5 {
		depth := 2 + params
		for n := range 9 {
			for s, holds := range map[string]bool{
				"local #": n >= 2 && n < depth, "putl #": n >= 2 && n < depth, "addrl #": n >= 2, "call #": n >= 2 && n <= depth-3, "stack #": n >= 2, "num 1, call #": n >= 2 && n <= depth-2,
			} {
				want := api.ErrStack
				if holds {
					want = api.OK
				}
				wantCheck(t, want, strings.ReplaceAll(fmt.Sprintf("enter 1 %d, %s, back", params, s), "#", fmt.Sprint(n)))
			}
		}
	}
}

// P6.1, ErrStack: what leads to an OTake, and what does not.
func TestTakes(t *testing.T) {
	wantCheck(t, api.ErrStack, inside("result 1, label 1, stack 4", "result 1, label 1, label 2, stack 4", "result 1, label 2, take 4, label 1, stack 4")...)
	for _, s := range []string{"jump #", "true #, back", "false #, back", "switch # 0", "switch # 1, case 5 3", "switch 3 1, case 5 #", "switch 3 2, case 5 #, case 6 3"} {
		for _, label := range []string{"1", "2"} {
			wantCheck(t, api.ErrStack, inside(strings.ReplaceAll(s, "#", label)+", label 3, stack 4, back, label 1, label 2, take 4")...)
		}
		wantCheck(t, api.OK, inside(strings.ReplaceAll(s, "#", "3")+", label 3, stack 4, back, label 1, label 2, take 4")...)
	}
	wantCheck(t, api.ErrStack, "enter 1, take 2, back", "enter 1, label 1, take 2, back", "enter 1, label 1, label 2, take 2, back")
	wantCheck(t, api.ErrStack, inside("num 1, take 4", "label 1, stack 4, take 4", "true 1, label 1, take 4", "stack 4, label 1, label 2, take 4", "back, label 1, take 4, take 4", "back, label 1, take 4, label 2, take 4", "num 1, call 2, take 2", "jump 1, num 5, label 1, take 4")...)
	wantCheck(t, api.OK, inside("back, take 4", "jump 1, label 2, take 4, back, label 1, stack 4", "switch 1 0, label 2, take 4, label 1, stack 4", "switch 1 1, case 1 1, label 2, take 4, label 1, stack 4", "return, label 1, label 2, take 4")...)
}

// P6.1, ErrStack: how far an OStack may go, but directly behind a label.
func TestStacksThatRise(t *testing.T) {
	for _, depth := range []int{2, 3, 10, 1997} {
		from := fmt.Sprintf("enter 1, jump 1, label 1, stack %d, ", depth)
		most, more := fmt.Sprint(depth+2002), fmt.Sprint(depth+2003)
		wantCheck(t, api.OK, from+"stack "+most+", back", from+"stack "+more[:1]+", back", from+"num 1, stack "+more+", back", from+"back, stack "+most+", back", from+"label 2, stack "+more+", back", from+"jump 2, label 2, label 3, stack 4000, back")
		wantCheck(t, api.ErrStack, from+"stack "+more+", back", from+"num 1, putg 1, stack "+more+", back", from+"back, stack "+more+", back", from+"label 2, stack "+fmt.Sprint(depth)+", stack "+more+", back")
	}
	wantCheck(t, api.ErrStack, "enter 1 0, stack 2005, back", "enter 1 8, stack 2013, back", "enter 1, stack 1990, stack 3993, back")
	wantCheck(t, api.OK, "enter 1 0, stack 2004, back", "enter 1 8, stack 2012, back", "enter 1, stack 1990, stack 3992, back")
}

// P6.1: each error for the whole code before the next one.
func TestOrderOfErrors(t *testing.T) {
	bad := assemble("enter 1, bin add, num 1")
	wantCheckOf(t, api.ErrCode, "ErrStack first, then ErrCode", bad)
	bad.Labels = 20001
	wantCheckOf(t, api.ErrLimit, "ErrLimit and others", bad)
	bad.Labels, bad.Data = 0, []api.Data{{Words: make([]int, api.StaticSize)}, {}, {Text: "\x00", IsText: true}}
	wantCheckOf(t, api.ErrLimit, "too many words", bad)
	wantCheck(t, api.ErrCode, "enter 1, bin add, back, enter 3, back", "enter 1, take 2, num 4001, result 1, label 1, stack 1, num 5")
}

// P6.1: codes that differ in one field, and lists that are empty.
func TestSame(t *testing.T) {
	code := func() api.Code {
		c := assemble("enter 1, label 1, stack 2, back")
		c.Globals = []api.Entry{{Global: 1, Proc: 1}, {Global: 2, Proc: 1}}
		return c
	}
	same := func(a, b api.Code, want bool) {
		t.Helper()
		if ocode.Same(a, b) != want || ocode.Same(b, a) != want {
			t.Errorf("Same(%v, %v) is not %t", a, b, want)
		}
	}
	same(code(), code(), true)
	for _, change := range []func(c *api.Code){
		func(c *api.Code) { c.Name = "d" }, func(c *api.Code) { c.Procs++ }, func(c *api.Code) { c.Labels-- },
		func(c *api.Code) { c.Ops[1].Op++ }, func(c *api.Code) { c.Ops[1].N++ }, func(c *api.Code) { c.Ops[3].M++ }, func(c *api.Code) { c.Ops = c.Ops[:3] }, func(c *api.Code) { c.Ops = nil }, func(c *api.Code) { c.Ops[1], c.Ops[2] = c.Ops[2], c.Ops[1] },
		func(c *api.Code) { c.Globals[1].Global++ }, func(c *api.Code) { c.Globals[1].Proc++ }, func(c *api.Code) { c.Globals = c.Globals[:1] }, func(c *api.Code) { c.Globals[0], c.Globals[1] = c.Globals[1], c.Globals[0] },
		func(c *api.Code) { c.Data[1].Text = "a" }, func(c *api.Code) { c.Data[1].IsText = false }, func(c *api.Code) { c.Data[2].Words[1]++ }, func(c *api.Code) { c.Data[2].Words = c.Data[2].Words[:1] }, func(c *api.Code) { c.Data = c.Data[:2] }, func(c *api.Code) { c.Data[0], c.Data[2] = c.Data[2], c.Data[0] },
	} {
		c := code()
		change(&c)
		same(code(), c, false)
		same(c, c, true)
	}
	same(api.Code{}, api.Code{Data: []api.Data{}, Ops: make([]api.Op, 0, 3), Globals: []api.Entry{}}, true)
	same(api.Code{Data: []api.Data{{}}}, api.Code{Data: []api.Data{{Words: []int{}}}}, true)
	same(api.Code{}, code(), false)
}
