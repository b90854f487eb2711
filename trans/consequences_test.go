package trans_test

import (
	"fmt"
	"maps"
	"reflect"
	"slices"
	"strconv"
	"strings"
	"testing"

	"bluebell/api"
	"bluebell/ocode"
	"bluebell/parse"
	"bluebell/trans"
)

// P7.4: the code is valid, and its text, read, is the code.
func TestValid(t *testing.T) {
	overSections(t, 10000, 1000, func(m *maker, s api.Section, text string) {
		c, err := trans.Translate(s)
		if err != api.OK {
			return
		}
		written, e := ocode.Text(c)
		back, r, line := ocode.Read(written)
		if valid := ocode.Check(c); valid != api.OK || e != api.OK || r != api.OK || !ocode.Same(c, back) {
			t.Errorf("%s: Check: error %d; Text: error %d; Read: error %d in line %d:\n%s", text, valid, e, r, line, written)
		}
	})
}

// Arguments are not changed, and results are shared with nothing.
func TestArguments(t *testing.T) {
	overSections(t, 20000, 200, func(m *maker, s api.Section, text string) {
		before := copied(s)
		c, err := trans.Translate(s)
		want, _ := trans.Translate(before)
		for i := range c.Ops {
			c.Ops[i] = api.Op{}
		}
		for _, d := range c.Data {
			for i := range d.Words {
				d.Words[i]++
			}
		}
		again, e := trans.Translate(s)
		trans.Count(s)
		trans.Cross(s)
		if err != e || !ocode.Same(again, want) || !reflect.DeepEqual(s, before) {
			t.Errorf("%s: errors %d and %d", text, err, e)
		}
	})
}

func copied(s api.Section) api.Section {
	s.Decls = copiedNodes(s.Decls)
	return s
}

func copiedNodes(l []api.Node) []api.Node {
	l = slices.Clone(l)
	for i := range l {
		l[i].L = copiedNodes(l[i].L)
	}
	return l
}

// P7.3: Count and Cross tell of the code.
func TestCountsOfSections(t *testing.T) {
	overSections(t, 30000, 500, func(m *maker, s api.Section, text string) {
		c, err := trans.Translate(s)
		var counts []int
		var cross [][2]int
		for _, o := range c.Ops {
			if o.Op == api.OEnter {
				counts = append(counts, 0)
			}
			counts[len(counts)-1]++
			proc := 0
			for _, e := range c.Globals {
				if o.Op == api.OGlobal && o.N == e.Global {
					proc = e.Proc
				}
			}
			if o.Op == api.OProc {
				proc = o.N
			}
			if pair := [2]int{len(counts), proc}; proc != 0 && !slices.Contains(cross, pair) {
				cross = append(cross, pair)
			}
		}
		if l, e := trans.Count(s); e != err || !slices.Equal(l, counts) {
			t.Errorf("Count(%s): %v, error %d; want %v, error %d", text, l, e, counts, err)
		}
		if l, e := trans.Cross(s); e != err || !slices.Equal(l, cross) {
			t.Errorf("Cross(%s): %v, error %d; want %v, error %d", text, l, e, cross, err)
		}
	})
}

// P7.5: a section that is printed and parsed again has the same code.
func TestPrinted(t *testing.T) {
	overSections(t, 40000, 500, func(m *maker, s api.Section, text string) {
		c, err := trans.Translate(s)
		back, p, _ := parse.Parse(strings.ReplaceAll(text, " ; ", " // a comment\n\t;\n"))
		other, e := trans.Translate(back)
		if p != api.OK || e != err || !ocode.Same(c, other) {
			t.Errorf("%s: errors %d, %d and %d", text, err, p, e)
		}
	})
}

// renamer gives locals names that are nowhere else.
type renamer struct{ count int }

func (r *renamer) fresh() string {
	r.count++
	return "local" + strconv.Itoa(r.count)
}

// node returns a tree with other names of locals, and adds to those that are known what the node declares for what is behind it.
func (r *renamer) node(n api.Node, known map[string]string) api.Node {
	n.L = slices.Clone(n.L)
	switch n.Op {
	case api.EName:
		if other, ok := known[n.S]; ok {
			n.S = other
		}
	case api.DProc:
		r.declare(n.L[:len(n.L)-1], known)
		r.nodes(n.L[len(n.L)-1:], known)
	case api.CBlock:
		r.nodes(n.L, maps.Clone(known))
	case api.CLet:
		r.nodes(n.L[n.N:], known)
		r.declare(n.L[:n.N], known)
	case api.CVec:
		r.nodes(n.L, known)
		known[n.S] = r.fresh()
		n.S = known[n.S]
	case api.CFor:
		last := len(n.L) - 1
		r.nodes(n.L[:last], known)
		inside := maps.Clone(known)
		inside[n.S] = r.fresh()
		n.S = inside[n.S]
		r.nodes(n.L[last:], inside)
	default:
		r.nodes(n.L, known)
	}
	return n
}

func (r *renamer) nodes(l []api.Node, known map[string]string) {
	for i := range l {
		l[i] = r.node(l[i], known)
	}
}

func (r *renamer) declare(names []api.Node, known map[string]string) {
	for i := range names {
		known[names[i].S] = r.fresh()
		names[i].S = known[names[i].S]
	}
}

// P7.5: names of locals do not matter.
func TestNamesOfLocals(t *testing.T) {
	overSections(t, 50000, 500, func(m *maker, s api.Section, text string) {
		c, err := trans.Translate(s)
		var r renamer
		other := copied(s)
		for i, d := range other.Decls {
			other.Decls[i] = r.node(d, map[string]string{})
		}
		renamed, e := trans.Translate(other)
		if e != err || !ocode.Same(c, renamed) || r.count > 0 && parse.Same(s, other) {
			printed, _ := parse.Print(other)
			t.Errorf("%s: error %d; renamed %s: error %d", text, err, printed, e)
		}
	})
}

// ownTexts returns the instructions of each procedure by its name, with labels in the order of their naming, and what areas and procedures are instead of their numbers.
func ownTexts(s api.Section, c api.Code) map[string][]string {
	statics := 0
	var names []string
	for _, d := range s.Decls {
		switch d.Op {
		case api.DStatic:
			statics += len(d.L)
		case api.DProc:
			names = append(names, d.S)
		}
	}
	texts, proc, labels := map[string][]string{}, "", map[int]int{}
	label := func(n *int) {
		if labels[*n] == 0 {
			labels[*n] = len(labels) + 1
		}
		*n = labels[*n]
	}
	for _, o := range c.Ops {
		what := ""
		switch o.Op {
		case api.OEnter:
			proc, labels = names[o.N-1], map[int]int{}
			what, o.N = proc, 0
		case api.OProc:
			what, o.N = names[o.N-1], 0
		case api.OAddrS:
			if o.N >= statics {
				what, o.N = fmt.Sprint(c.Data[o.N]), 0
			}
		case api.OLabel, api.OJump, api.OTrue, api.OFalse, api.OResult, api.OSwitch:
			label(&o.N)
		case api.OCase:
			label(&o.M)
		}
		texts[proc] = append(texts[proc], fmt.Sprint(o, what))
	}
	return texts
}

// P7.5: the instructions of a procedure do not hang on other procedures.
func TestOtherProcedures(t *testing.T) {
	compared := 0
	overSections(t, 60000, 500, func(m *maker, s api.Section, text string) {
		c, err := trans.Translate(s)
		other := copied(s)
		rest := other.Decls[1:] // the manifests stand before them
		m.Shuffle(len(rest), func(i, k int) { rest[i], rest[k] = rest[k], rest[i] })
		changed := ""
		for i, d := range rest {
			if d.Op == api.DProc && changed == "" {
				changed = d.S
				rest[i] = textNode(api.DProc, d.S, number(m.Intn(10)))
			}
		}
		otherCode, e := trans.Translate(other)
		if err != api.OK || e != api.OK {
			return
		}
		texts, otherTexts := ownTexts(s, c), ownTexts(other, otherCode)
		for name, l := range texts {
			if name != changed && !slices.Equal(l, otherTexts[name]) {
				t.Errorf("%s: %s is %q, with %s changed %q", text, name, l, changed, otherTexts[name])
			}
			compared++
		}
	})
	if compared < 500 {
		t.Errorf("%d procedures", compared)
	}
}
