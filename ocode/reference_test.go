package ocode_test

import (
	"math/big"
	"regexp"
	"slices"
	"strings"
	"testing"

	"bluebell/api"
	"bluebell/lex"
	"bluebell/ocode"
)

// effects tells the chapter's table of depths, for each instruction.
var effects = spread(map[string]string{
	"num local addrl global addrg static addrs proc": "d + 1", "putl putg puts bin getb true false switch return result": "d - 1", "load un label jump back case": "d", "store": "d - 2", "putb": "d - 3", "stack": "N", "call": "N + 1", "enter": "2 + M", "take": "N + 1",
})

func spread(lists map[string]string) map[int]string {
	m := map[int]string{}
	for names, effect := range lists {
		for _, name := range strings.Fields(names) {
			m[numbered(opNames, name)] = effect
		}
	}
	return m
}

// takers tells what instructions take, one by one.
var takers = map[string]int{"putl": 1, "putg": 1, "puts": 1, "load": 1, "un": 1, "true": 1, "false": 1, "return": 1, "result": 1, "switch": 1, "bin": 2, "getb": 2, "store": 2, "putb": 3}

func behindReference(o api.Op, d int) int {
	switch effects[o.Op] {
	case "d + 1":
		return d + 1
	case "d - 1":
		return d - 1
	case "d":
		return d
	case "d - 2":
		return d - 2
	case "d - 3":
		return d - 3
	case "N":
		return o.N
	case "N + 1":
		return o.N + 1
	case "2 + M":
		return 2 + o.M
	}
	panic("no effect")
}

// reference looks at code rule by rule, and from each instruction wherever it has to.
type reference struct {
	api.Code
	names []string // of the instructions; empty for an op that is none
}

func newReference(c api.Code) *reference {
	r := &reference{Code: c}
	for _, o := range c.Ops {
		name := ""
		if within(o.Op, 1, 30) {
			name = strings.Fields(opNames)[o.Op-1]
		}
		r.names = append(r.names, name)
	}
	return r
}

func checkReference(c api.Code) api.Errno {
	r := newReference(c)
	switch {
	case r.isTooMuch():
		return api.ErrLimit
	case r.isWrong():
		return api.ErrCode
	case r.isTooDeep():
		return api.ErrStack
	}
	return api.OK
}

func (r *reference) isTooMuch() bool {
	words, procs, labels := 0, r.Procs, r.Labels
	for _, d := range r.Data {
		if d.IsText {
			words += (len(d.Text) + 2) / 2
		} else {
			words += len(d.Words)
		}
	}
	for _, op := range []int{api.OEnter, api.OLabel} {
		n := 0
		for _, o := range r.Ops {
			if o.Op == op {
				n++
			}
		}
		if op == api.OEnter {
			procs = max(procs, n)
		} else {
			labels = max(labels, n)
		}
	}
	return len(r.Ops) > api.MaxOps || len(r.Data) > 2000 || procs > 200 || labels > 20000 || words > 7800
}

func (r *reference) isWrong() bool {
	if slices.Contains(r.names, "") {
		return true
	}
	for i := range r.Ops {
		if !r.hasNumbers(i) || !r.hasPlace(i) {
			return true
		}
	}
	last := len(r.Ops) - 1
	if last >= 0 && (r.names[0] != "enter" || r.goesOn(last)) {
		return true
	}
	c := counted(r.Code)
	_, err := lex.Quote(r.Name)
	return err != api.OK || c.Procs != r.Procs || c.Labels != r.Labels || !r.hasParts()
}

func within(n, least, most int) bool { return least <= n && n <= most }

// hasNumbers looks at the numbers of an instruction.
func (r *reference) hasNumbers(i int) bool {
	o := r.Ops[i]
	isLabel := func(n int) bool {
		return within(n, 1, r.Labels) && slices.ContainsFunc(r.Ops, func(o api.Op) bool { return o.Op == api.OLabel && o.N == n })
	}
	switch r.names[i] {
	case "enter":
		return within(o.N, 1, r.Procs) && within(o.M, 0, 8)
	case "switch":
		return isLabel(o.N) && within(o.M, 0, 1000)
	case "case":
		return within(o.N, -1<<31, 1<<31-1) && isLabel(o.M)
	}
	if o.M != 0 {
		return false
	}
	switch r.names[i] {
	case "num":
		return within(o.N, -1<<31, 1<<31-1)
	case "local", "putl", "addrl", "stack", "take", "call":
		return within(o.N, 0, 4000)
	case "global", "putg", "addrg":
		return within(o.N, 0, 199)
	case "static", "puts", "addrs":
		return within(o.N, 0, len(r.Data)-1)
	case "proc":
		return within(o.N, 1, r.Procs)
	case "bin":
		return within(o.N, 1, 17)
	case "un":
		return within(o.N, 18, 19)
	case "label", "jump", "true", "false", "result":
		return isLabel(o.N)
	}
	return o.N == 0
}

// proc tells in which procedure an instruction is.
func (r *reference) proc(i int) int {
	n := 0
	for _, name := range r.names[:i+1] {
		if name == "enter" {
			n++
		}
	}
	return n
}

func (r *reference) goesOn(i int) bool {
	switch r.names[i] {
	case "jump", "return", "back", "result":
		return false
	case "switch", "case":
		return i+1 < len(r.names) && r.names[i+1] == "case"
	}
	return true
}

// label tells which label an instruction names, or 0.
func (r *reference) label(i int) int {
	switch r.names[i] {
	case "jump", "true", "false", "result", "switch":
		return r.Ops[i].N
	case "case":
		return r.Ops[i].M
	}
	return 0
}

func (r *reference) place(label int) int {
	return slices.Index(r.Ops, api.Op{Op: api.OLabel, N: label})
}

// hasPlace looks at what is before and behind an instruction.
func (r *reference) hasPlace(i int) bool {
	o, before, behind := r.Ops[i], "", ""
	if i > 0 {
		before = r.names[i-1]
	}
	if i+1 < len(r.names) {
		behind = r.names[i+1]
	}
	if l := r.label(i); l != 0 && r.proc(i) != r.proc(r.place(l)) {
		return false
	}
	switch r.names[i] {
	case "enter":
		return o.N == r.proc(i) && (i == 0 || !r.goesOn(i-1))
	case "label":
		return r.place(o.N) == i && (behind == "stack" || behind == "take" || behind == "label")
	case "case":
		return before == "case" || before == "switch"
	case "switch":
		n := 0
		for i+n+1 < len(r.names) && r.names[i+n+1] == "case" {
			n++
		}
		return n == o.M
	}
	return true
}

// hasParts looks at areas and entries.
func (r *reference) hasParts() bool {
	for _, d := range r.Data {
		if _, err := lex.Quote(d.Text); err != api.OK || d.IsText == (len(d.Words) > 0) || !d.IsText && d.Text != "" {
			return false
		}
		for _, w := range d.Words {
			if !within(w, -1<<31, 1<<31-1) {
				return false
			}
		}
	}
	for i, e := range r.Globals {
		if !within(e.Global, 1, 199) || !within(e.Proc, 1, r.Procs) || slices.ContainsFunc(r.Globals[:i], func(b api.Entry) bool { return b.Global == e.Global }) {
			return false
		}
	}
	return true
}

// depths tells the depth before each instruction, from the procedure's beginning on each time.
func (r *reference) depths() []int {
	l := make([]int, len(r.Ops))
	for i := range r.Ops {
		d := 0
		for k, o := range r.Ops[:i] {
			if r.proc(k) == r.proc(i) {
				d = behindReference(o, d)
			}
		}
		l[i] = d
	}
	return l
}

func (r *reference) leadsToTake(i int) bool {
	for r.names[i] == "label" {
		i++
	}
	return r.names[i] == "take"
}

func (r *reference) isTooDeep() bool {
	for i, d := range r.depths() {
		o, name := r.Ops[i], r.names[i]
		behind := behindReference(o, d)
		if behind < 2 || behind > 4000 || name != "enter" && d-takers[name] < 2 {
			return true
		}
		switch {
		case (name == "local" || name == "putl") && !within(o.N, 2, d-1), name == "addrl" && o.N < 2, name == "call" && !within(o.N, 2, d-3):
			return true
		case name == "stack" && r.names[i-1] != "label" && o.N-d > 2002:
			return true
		case name != "label" && r.goesOn(i) && r.leadsToTake(i+1):
			return true
		}
		if l := r.label(i); l != 0 && r.leadsToTake(r.place(l)) != (name == "result") {
			return true
		}
	}
	return false
}

// P6.1, P6.3, P6.4: random codes, changed or not, held against the rules one by one.
func TestReference(t *testing.T) {
	counts := map[api.Errno]int{}
	look := func(c api.Code) {
		old := copied(c)
		want := checkReference(c)
		if err := ocode.Check(c); err != want {
			t.Fatalf("Check(%v): %d; want %d", c, err, want)
		}
		counts[want]++
		depths, err1 := ocode.Depths(c)
		room, err2 := ocode.Room(c)
		jumps, err3 := ocode.Jumps(c)
		if err1 != want || err2 != want || err3 != want || !ocode.Same(c, old) {
			t.Fatalf("%v: Depths, Room, Jumps: errors %d, %d, %d; want %d", c, err1, err2, err3, want)
		}
		var wantDepths, wantRoom, wantJumps []int
		if want == api.OK {
			r := newReference(c)
			wantDepths, wantRoom, wantJumps = r.depths(), make([]int, c.Procs), make([]int, c.Labels)
			for i, d := range wantDepths {
				p := r.proc(i) - 1
				wantRoom[p] = max(wantRoom[p], d, behindReference(c.Ops[i], d))
				if l := r.label(i); l != 0 {
					wantJumps[l-1]++
				}
			}
		}
		if !slices.Equal(depths, wantDepths) || !slices.Equal(room, wantRoom) || !slices.Equal(jumps, wantJumps) {
			t.Fatalf("%v: Depths %v, Room %v, Jumps %v; want %v, %v, %v", c, depths, room, jumps, wantDepths, wantRoom, wantJumps)
		}
	}
	overCodes(5000, 1000, func(m *maker, c api.Code) {
		look(c)
		if counts[api.OK] == 0 {
			t.Fatalf("%v is made, but not valid", c)
		}
		for range 4 {
			look(m.changed(c))
			c = m.changed(c)
		}
		look(m.garbage())
	})
	for _, err := range []api.Errno{api.OK, api.ErrLimit, api.ErrCode, api.ErrStack} {
		if counts[err] < 50 {
			t.Errorf("only %d codes end with %d: %v", counts[err], err, counts)
		}
	}
}

const (
	quotedForm = `"(?:[ !#-)+-~]|\*[nt*"]){0,100}"`
	numberForm = `(?:0|-?[1-9][0-9]*)`
)

// lineForms are the forms of lines, in the order of their parts; lineParts are the parts.
var (
	lineForms = compiled(
		`code `+quotedForm, `text `+quotedForm, `words(?: `+numberForm+`)+`, `entry `+numberForm+` `+numberForm,
		`(?:bin (?:mul|div|rem|add|sub|shl|shr|and|or|xor|eqv|eq|ne|lt|le|gt|ge)|un (?:neg|not)|(?:enter|switch|case) `+numberForm+` `+numberForm+`|(?:num|local|putl|addrl|global|putg|addrg|static|puts|addrs|proc|load|store|getb|putb|stack|label|jump|true|false|call|return|back|result|take) `+numberForm+`)`, `end`,
	)
	lineParts = []int{0, 1, 1, 2, 3, 4}
)

func compiled(forms ...string) []*regexp.Regexp {
	var l []*regexp.Regexp
	for _, f := range forms {
		l = append(l, regexp.MustCompile(`\A`+f+`\z`))
	}
	return l
}

// readReference reads a text line by line, each by its form.
func readReference(s string) (api.Code, api.Errno, int) {
	next, line := 0, 0
	var c api.Code
	for next < 5 {
		line++
		text, rest, ended := strings.Cut(s, "\n")
		i := slices.IndexFunc(lineForms, func(f *regexp.Regexp) bool { return f.MatchString(text) })
		if !ended || i < 0 || !fitsGo(text) || lineParts[i] < next || next == 0 && i > 0 {
			return api.Code{}, api.ErrCode, line
		}
		s, next = rest, lineParts[i]
		if i == 0 || i == 5 {
			next++
		}
		readLine(&c, i, text)
	}
	if s != "" {
		return api.Code{}, api.ErrCode, line + 1
	}
	c = counted(c)
	if err := checkReference(c); err != api.OK {
		return api.Code{}, err, 0
	}
	return c, api.OK, 0
}

// fitsGo reports whether the numbers of a line are ones that Go has.
func fitsGo(text string) bool {
	for _, word := range strings.Fields(text) {
		if n, ok := new(big.Int).SetString(word, 10); ok && !n.IsInt64() && !strings.Contains(text, "\"") {
			return false
		}
	}
	return true
}

// readLine adds what a line of a form tells.
func readLine(c *api.Code, form int, text string) {
	unquoted := func() string {
		quoted := text[5:]
		return strings.NewReplacer("*n", "\n", "*t", "\t", "**", "*", "*\"", "\"").Replace(quoted[1 : len(quoted)-1])
	}
	numbers := func() []int {
		var l []int
		for _, word := range strings.Fields(text)[1:] {
			n, _ := new(big.Int).SetString(word, 10)
			l = append(l, int(n.Int64()))
		}
		return l
	}
	switch form {
	case 0:
		c.Name = unquoted()
	case 1:
		c.Data = append(c.Data, api.Data{IsText: true, Text: unquoted()})
	case 2:
		c.Data = append(c.Data, api.Data{Words: numbers()})
	case 3:
		l := numbers()
		c.Globals = append(c.Globals, api.Entry{Global: l[0], Proc: l[1]})
	case 4:
		c.Ops = append(c.Ops, instruction(text))
	}
}
