package trans_test

import (
	"fmt"
	"maps"
	"slices"
	"strconv"
	"strings"
	"testing"

	"bluebell/api"
	"bluebell/lex"
	"bluebell/ocode"
	"bluebell/parse"
	"bluebell/scope"
	"bluebell/trans"
)

// reference writes code as text, rule by rule; what is known at a place is handed on as values.
type reference struct {
	tops   []scope.Top
	areas  []string
	lines  []string
	labels int
}

// context is what names and commands mean at a place.
type context struct {
	locals, labels              map[string]int
	cases                       map[int]int
	other                       int // the label of a default
	leave, next, endcase, value int // labels
}

func with[K comparable](m map[K]int, key K, n int) map[K]int {
	m = maps.Clone(m)
	m[key] = n
	return m
}

// put writes lines, with commas between them.
func (r *reference) put(format string, numbers ...any) {
	r.lines = append(r.lines, strings.Split(fmt.Sprintf(format, numbers...), ",")...)
}

func (r *reference) label() int {
	r.labels++
	return r.labels
}

func (r *reference) area(format string, l ...any) int {
	r.areas = append(r.areas, fmt.Sprintf(format, l...))
	return len(r.areas) - 1
}

func (r *reference) constant(n api.Node) int {
	v, err := scope.Eval(n, r.tops)
	if err != api.OK {
		panic("no constant")
	}
	return v
}

// referenceText returns the text of a section's code, and the greatest depth.
func referenceText(s api.Section) (string, int) {
	tops, err := scope.Tops(s)
	if err != api.OK {
		panic("a section that does not pass")
	}
	r := &reference{tops: tops}
	for _, d := range s.Decls {
		if d.Op == api.DStatic {
			for _, c := range d.L {
				r.area("words %d", r.constant(c.L[0]))
			}
		}
	}
	procs := slices.DeleteFunc(slices.Clone(s.Decls), func(d api.Node) bool { return d.Op != api.DProc })
	var entries []string
	for i, d := range procs {
		r.procedure(i+1, d)
		if g := r.globalOf(d.S); g != 0 {
			entries = append(entries, fmt.Sprintf("entry %d %d", g, i+1))
		}
	}
	name, _ := lex.Quote(s.Name)
	all := slices.Concat([]string{"code " + name}, r.areas, entries, r.lines, []string{"end", ""})
	return strings.Join(all, "\n"), deepest(r.lines)
}

func (r *reference) globalOf(proc string) int {
	for _, t := range r.tops {
		if t.Name == proc && t.Kind == scope.Global {
			return t.N
		}
	}
	if proc == "start" {
		return 1
	}
	return 0
}

func (r *reference) procedure(number int, d api.Node) {
	c := context{locals: map[string]int{}, labels: map[string]int{}}
	count := len(d.L) - 1
	for i, p := range d.L[:count] {
		c.locals[p.S] = 2 + i
	}
	r.put("enter %d %d", number, count)
	if d.N == 0 {
		r.value(d.L[count], c, 2+count)
		r.put("return 0")
	} else {
		r.command(d.L[count], c, 2+count)
		r.put("back 0")
	}
}

// name writes what a name means: its value, or with "put" or "addr" what is done with the variable.
func (r *reference) name(s string, c context, way string) {
	kinds := map[string][]string{"": {"local", "global", "static"}, "put": {"putl", "putg", "puts"}, "addr": {"addrl", "addrg", "addrs"}}[way]
	t, _ := scope.Find(r.tops, s)
	global := r.globalOf(s)
	local, isLocal := c.locals[s]
	switch {
	case isLocal:
		r.put(kinds[0]+" %d", local)
	case t.Kind == scope.Manifest:
		r.put("num %d", t.N)
	case t.Kind == scope.Proc && global == 0:
		r.put("proc %d", t.N)
	case t.Kind == scope.Proc:
		r.put("global %d", global)
	case t.Kind == scope.Global:
		r.put(kinds[1]+" %d", t.N)
	default:
		r.put(kinds[2]+" %d", t.N)
	}
}

var operators = strings.Fields("- mul div rem add sub shl shr and or xor eqv eq ne lt le gt ge neg not")

// value writes an expression before which the depth is d.
func (r *reference) value(n api.Node, c context, d int) {
	switch n.Op {
	case api.ENum, api.ETrue, api.EFalse, api.ESlct:
		r.put("num %d", r.constant(n))
	case api.EAny:
		r.put("num 0")
	case api.EName:
		r.name(n.S, c, "")
	case api.EStr:
		text, _ := lex.Quote(n.S)
		r.put("addrs %d", r.area("text %s", text))
	case api.ETable:
		words := "words"
		for _, part := range n.L {
			words += " " + strconv.Itoa(r.constant(part))
		}
		r.put("addrs %d", r.area("%s", words))
	case api.ECall:
		r.put("stack %d", d+2)
		for i, arg := range n.L[1:] {
			r.value(arg, c, d+2+i)
		}
		r.value(n.L[0], c, d+1+len(n.L))
		r.put("call %d", d)
	case api.ESub:
		r.two(n, c, d)
		r.put("bin add,load 0")
	case api.EByte:
		r.two(n, c, d)
		r.put("getb 0")
	case api.ELoad:
		r.value(n.L[0], c, d)
		r.put("load 0")
	case api.EBin:
		r.two(n, c, d)
		r.put("bin %s", operators[n.N])
	case api.EUn:
		r.value(n.L[0], c, d)
		r.put("un %s", operators[n.N])
	default:
		r.otherValue(n, c, d)
	}
}

func (r *reference) two(n api.Node, c context, d int) {
	r.value(n.L[0], c, d)
	r.value(n.L[1], c, d+1)
}

func (r *reference) otherValue(n api.Node, c context, d int) {
	switch n.Op {
	case api.EAddr:
		switch part := n.L[0]; part.Op {
		case api.EName:
			r.name(part.S, c, "addr")
		case api.ESub:
			r.two(part, c, d)
			r.put("bin add")
		case api.ELoad:
			r.value(part.L[0], c, d)
		}
	case api.ECond:
		r.value(n.L[0], c, d)
		l, m := r.label(), r.label()
		r.put("false %d", l)
		r.value(n.L[1], c, d)
		r.put("jump %d,label %d,stack %d", m, l, d)
		r.value(n.L[2], c, d)
		r.put("label %d,stack %d", m, d+1)
	case api.EValof:
		c.value = r.label()
		r.command(n.L[0], c, d)
		r.put("num 0,result %d,label %d,take %d", c.value, c.value, d)
	case api.ESel:
		size, shift, offset, _ := scope.Selector(r.constant(n.L[0]))
		r.value(n.L[1], c, d)
		if offset > 0 {
			r.put("num %d,bin add", offset)
		}
		r.put("load 0")
		if shift > 0 {
			r.put("num %d,bin shr", shift)
		}
		if size > 0 {
			r.put("num %d,bin and", 1<<size-1)
		}
	default:
		panic("an expression that there is not")
	}
}

func (r *reference) assign(left, right api.Node, c context, d int) {
	if left.Op == api.ESel {
		r.assignField(left, right, c, d)
		return
	}
	r.value(right, c, d)
	switch left.Op {
	case api.EName:
		r.name(left.S, c, "put")
	case api.ESub:
		r.two(left, c, d+1)
		r.put("bin add,store 0")
	case api.ELoad:
		r.value(left.L[0], c, d+1)
		r.put("store 0")
	case api.EByte:
		r.two(left, c, d+1)
		r.put("putb 0")
	}
}

func (r *reference) assignField(left, right api.Node, c context, d int) {
	size, shift, offset, _ := scope.Selector(r.constant(left.L[0]))
	r.value(left.L[1], c, d)
	if offset > 0 {
		r.put("num %d,bin add", offset)
	}
	r.value(right, c, d+1)
	m := int32(-1)
	if size > 0 {
		m = 1<<size - 1
		r.put("num %d,bin and", m)
	}
	if shift > 0 {
		r.put("num %d,bin shl", shift)
	}
	r.put("local %d,load 0,num %d,bin and,bin or,local %d,store 0,stack %d", d, ^(m << shift), d, d)
}

// command writes a command before which the depth is d.
func (r *reference) command(n api.Node, c context, d int) {
	switch n.Op {
	case api.CAssign:
		for i := range n.N {
			r.assign(n.L[i], n.L[n.N+i], c, d)
		}
	case api.CCall:
		r.value(n.L[0], c, d)
		r.put("stack %d", d)
	case api.CIf, api.CUnless:
		r.value(n.L[0], c, d)
		l := r.label()
		r.put(map[int]string{api.CIf: "false %d", api.CUnless: "true %d"}[n.Op], l)
		r.command(n.L[1], c, d)
		r.put("label %d,stack %d", l, d)
	case api.CTest:
		r.value(n.L[0], c, d)
		l, m := r.label(), r.label()
		r.put("false %d", l)
		r.command(n.L[1], c, d)
		r.put("jump %d,label %d,stack %d", m, l, d)
		r.command(n.L[2], c, d)
		r.put("label %d,stack %d", m, d)
	case api.CWhile, api.CUntil:
		c.next, c.leave = r.label(), r.label()
		r.put("label %d,stack %d", c.next, d)
		r.value(n.L[0], c, d)
		r.put(map[int]string{api.CWhile: "false %d", api.CUntil: "true %d"}[n.Op], c.leave)
		r.command(n.L[1], c, d)
		r.put("jump %d,label %d,stack %d", c.next, c.leave, d)
	case api.CRepeat:
		c.next, c.leave = r.label(), r.label()
		r.put("label %d,stack %d", c.next, d)
		r.command(n.L[0], c, d)
		r.put("jump %d,label %d,stack %d", c.next, c.leave, d)
	case api.CRepWh, api.CRepUn:
		l := r.label()
		inside := c
		inside.leave, inside.next = r.label(), r.label()
		r.put("label %d,stack %d", l, d)
		r.command(n.L[0], inside, d)
		r.put("label %d,stack %d", inside.next, d)
		r.value(n.L[1], c, d)
		r.put(map[int]string{api.CRepWh: "true %d", api.CRepUn: "false %d"}[n.Op], l)
		r.put("label %d,stack %d", inside.leave, d)
	case api.CFor:
		r.counting(n, c, d)
	case api.CSwitch:
		r.switching(n, c, d)
	case api.CFinish:
		r.put("stack %d,num 0,global 4,call %d,stack %d", d+2, d, d)
	case api.CBlock:
		r.block(n, c, d)
	default:
		r.jumpOrLabel(n, c, d)
	}
}

func (r *reference) counting(n api.Node, c context, d int) {
	r.value(n.L[0], c, d)
	r.value(n.L[1], c, d+1)
	by, relation := 1, "le"
	if n.N == 1 {
		by = r.constant(n.L[2])
	}
	if by < 0 {
		relation = "ge"
	}
	l, m, o, k := r.label(), r.label(), r.label(), r.label()
	r.put("jump %d,label %d,stack %d", o, l, d+2)
	c.next, c.leave, c.locals = m, k, with(c.locals, n.S, d)
	r.command(n.L[2+n.N], c, d+2)
	r.put("label %d,stack %d,local %d,num %d,bin add,putl %d", m, d+2, d, by, d)
	r.put("label %d,stack %d,local %d,local %d,bin %s,true %d,label %d,stack %d", o, d+2, d, d+1, relation, l, k, d)
}

func (r *reference) jumpOrLabel(n api.Node, c context, d int) {
	switch n.Op {
	case api.CCase:
		r.put("label %d,stack %d", c.cases[r.constant(n.L[0])], d)
		r.command(n.L[1], c, d)
	case api.CDefault:
		r.put("label %d,stack %d", c.other, d)
		r.command(n.L[0], c, d)
	case api.CLabel:
		r.put("label %d,stack %d", c.labels[n.S], d)
		r.command(n.L[0], c, d)
	case api.CBreak:
		r.put("jump %d", c.leave)
	case api.CLoop:
		r.put("jump %d", c.next)
	case api.CEndcase:
		r.put("jump %d", c.endcase)
	case api.CGoto:
		r.put("jump %d", c.labels[n.S])
	case api.CReturn:
		r.put("back 0")
	case api.CResult:
		r.value(n.L[0], c, d)
		r.put("result %d", c.value)
	case api.CNull:
	default:
		panic("a command that there is not")
	}
}

// flat returns items, with the commands behind labels, cases and defaults as further ones.
func flat(items []api.Node) []api.Node {
	var list []api.Node
	for _, n := range items {
		list = append(list, n)
		switch n.Op {
		case api.CLabel, api.CDefault:
			list = append(list, flat(n.L)...)
		case api.CCase:
			list = append(list, flat(n.L[1:])...)
		}
	}
	return list
}

func (r *reference) switching(n api.Node, c context, d int) {
	r.value(n.L[0], c, d)
	c.cases, c.other = map[int]int{}, 0
	var cases []string
	for _, item := range flat(n.L[1].L) {
		if item.Op == api.CCase {
			v := r.constant(item.L[0])
			c.cases[v] = r.label()
			cases = append(cases, fmt.Sprintf("case %d %d", v, c.cases[v]))
		}
	}
	if slices.ContainsFunc(flat(n.L[1].L), func(item api.Node) bool { return item.Op == api.CDefault }) {
		c.other = r.label()
	}
	c.endcase = r.label()
	to := c.other
	if to == 0 {
		to = c.endcase
	}
	r.put("switch %d %d", to, len(cases))
	r.lines = append(r.lines, cases...)
	r.command(n.L[1], c, d)
	r.put("label %d,stack %d", c.endcase, d)
}

func (r *reference) block(n api.Node, c context, d int) {
	begin := d
	for _, item := range flat(n.L) {
		if item.Op == api.CLabel {
			c.labels = with(c.labels, item.S, r.label())
		}
	}
	for _, item := range n.L {
		switch item.Op {
		case api.CLet:
			for i, e := range item.L[item.N:] {
				r.value(e, c, d+i)
			}
			for _, name := range item.L[:item.N] {
				c.locals = with(c.locals, name.S, d)
				d++
			}
		case api.CVec:
			r.put("addrl %d", d+1)
			c.locals = with(c.locals, item.S, d)
			d += r.constant(item.L[0]) + 2
			r.put("stack %d", d)
		default:
			r.command(item, c, d)
		}
	}
	if d != begin {
		r.put("stack %d", begin)
	}
}

// deepest returns the greatest depth of instructions.
func deepest(lines []string) int {
	changes := map[string]int{}
	for change, names := range map[int]string{
		1:  "num local addrl global addrg static addrs proc",
		-1: "putl putg puts bin getb true false switch return result",
		-2: "store",
		-3: "putb",
	} {
		for _, name := range strings.Fields(names) {
			changes[name] = change
		}
	}
	d, most := 0, 0
	for _, line := range lines {
		words := strings.Fields(line)
		d += changes[words[0]]
		switch n, _ := strconv.Atoi(words[1]); words[0] {
		case "stack":
			d = n
		case "call", "take":
			d = n + 1
		case "enter":
			d, _ = strconv.Atoi(words[2])
			d += 2
		}
		most = max(most, d)
	}
	return most
}

// overSections looks at random sections that scope passes.
func overSections(t *testing.T, seed int64, sections int, look func(m *maker, s api.Section, text string)) {
	t.Helper()
	t.Parallel()
	for i := range sections {
		m := newMaker(seed + int64(i))
		s := m.section()
		text, err := parse.Print(s)
		if err == api.ErrLimit || err == api.ErrDeep {
			continue
		}
		if passes, at := scope.Check(s); err != api.OK || passes != api.OK {
			t.Fatalf("%d: Print %q, error %d; Check: error %d at %d", i, text, err, passes, at)
		}
		look(m, s, text)
		if t.Failed() {
			return
		}
	}
}

// P7.1: Translate and Compile make what the reference does.
func TestReference(t *testing.T) {
	made, beyond := map[int]int{}, 0
	overSections(t, 1, 3000, func(m *maker, s api.Section, text string) {
		want, depth := referenceText(s)
		c, err := trans.Translate(s)
		other, e, at := trans.Compile(text)
		if at != 0 || e != err || !ocode.Same(c, other) {
			t.Errorf("%s: Translate: error %d; Compile: error %d at %d", text, err, e, at)
		}
		if depth > 4000 {
			beyond++
			if err != api.ErrLimit {
				t.Errorf("%s: a depth of %d, error %d", text, depth, err)
			}
			return
		}
		if got, e := ocode.Text(c); err != api.OK || e != api.OK || got != want {
			t.Errorf("%s:\n%s, errors %d and %d; want\n%s", text, got, err, e, want)
		}
		for _, o := range c.Ops {
			made[o.Op]++
		}
	})
	for op := api.ONum; op <= api.OCase; op++ {
		if made[op] < 100 {
			t.Errorf("%d instructions with the Op %d", made[op], op)
		}
	}
	if beyond < 10 {
		t.Errorf("%d sections beyond the depth", beyond)
	}
}
