package mean_test

import (
	"slices"

	"bluebell/api"
	"bluebell/parse"
	"bluebell/word"
)

// reference runs a program in another way than Run does: it walks through the trees as they are, and looks for names where they are used.
type reference struct {
	f         api.Form
	input     string
	fuel      int
	result    api.Result // but its Out
	out       []byte
	narrow    bool
	trace     []string
	heap      int
	procs     map[string]*api.Node
	variables map[string]*thing
	manifests map[string]int
	places    map[*api.Node]*thing // of strings and tables
	rooms     []int                // words of the calls that go on
}

// val is a value: its kind is 'n' with a number, 'a' with an object and an offset, 'p' with a procedure's name, or 0.
type val struct {
	kind byte
	n    int
	in   *thing
	name string
}

// thing is an object. A cell is one of bytes if its bytes are not nil.
type thing struct {
	kind   string
	words  []val
	bytes  [][]int
	gone   bool
	length int
}

// level is what is known in a block, a loop or a call; a name with a place is known to items behind it.
type level struct {
	up    *level
	items []*api.Node
	at    int
	names []bound
}

type bound struct {
	name string
	item int
	in   *thing
}

// outcome is how a command has ended: how is "", "break", "loop", "endcase", "return", "resultis" or "goto".
type outcome struct {
	how   string
	v     val
	to    *level
	label string
}

type refEnd struct{}

func thingOf(kind string, cells int) *thing {
	return &thing{kind: kind, words: make([]val, cells), bytes: make([][]int, cells)}
}

func cellOf(kind string, v val) *thing {
	t := thingOf(kind, 1)
	t.words[0] = v
	return t
}

// runReference runs a program that is as said.
func runReference(s api.Section, f api.Form, input string, fuel int) *reference {
	r := &reference{f: f, input: input, fuel: fuel, narrow: true, heap: 16000, procs: map[string]*api.Node{}, variables: map[string]*thing{}, manifests: map[string]int{}, places: map[*api.Node]*thing{}}
	for i := range s.Decls {
		d := &s.Decls[i]
		if d.Op == api.DProc {
			r.procs[d.S] = d
		}
		for k := range d.L {
			switch d.Op {
			case api.DManifest:
				r.manifests[d.L[k].S] = r.constant(&d.L[k].L[0])
			case api.DStatic:
				v := r.constant(&d.L[k].L[0])
				r.needs(v >= -32768 && v <= 32767)
				r.variables[d.L[k].S] = cellOf("static", r.number(v))
			case api.DGlobal:
				r.variables[d.L[k].S] = cellOf("global", val{})
			}
		}
	}
	func() {
		defer func() {
			if e := recover(); e != nil {
				_ = e.(refEnd)
			}
		}()
		r.call(val{kind: 'p', name: "start"}, nil)
	}()
	r.result.Out = string(r.out)
	r.narrow = r.narrow && r.result.End != api.Wild
	return r
}

func (r *reference) end(end, code int, why api.Errno) {
	r.result.End, r.result.Code, r.result.Why = end, code, why
	panic(refEnd{})
}

// asks ends the run as wild unless something holds.
func (r *reference) asks(holds bool) {
	if !holds {
		r.end(api.Wild, 0, 0)
	}
}

func (r *reference) needs(holds bool) { r.narrow = r.narrow && holds }

func (r *reference) step() {
	if r.result.Steps == r.fuel {
		r.end(api.Fuel, 0, 0)
	}
	r.result.Steps++
}

func (r *reference) number(n int) val {
	w, _ := word.Norm(n, r.f.Bits)
	return val{kind: 'n', n: w}
}

func (r *reference) constant(n *api.Node) int {
	switch n.Op {
	case api.ENum:
		return n.N
	case api.ETrue:
		return -1
	case api.EName:
		return r.manifests[n.S]
	case api.ECond:
		if r.constant(&n.L[0]) != 0 {
			return r.constant(&n.L[1])
		}
		return r.constant(&n.L[2])
	case api.ESlct:
		return r.constant(&n.L[0]) + r.constant(&n.L[1])<<5 + r.constant(&n.L[2])<<10
	case api.EBin, api.EUn:
		b := 0
		if n.Op == api.EBin {
			b = r.constant(&n.L[1])
		}
		w, _ := word.Apply(n.N, r.constant(&n.L[0]), b, 32)
		return w
	}
	return 0
}

// find returns the object that a name means at a level.
func (r *reference) find(name string, lv *level) *thing {
	for ; lv != nil; lv = lv.up {
		var best *bound
		for i, b := range lv.names {
			if b.name == name && b.item < lv.at && (best == nil || b.item > best.item) {
				best = &lv.names[i]
			}
		}
		if best != nil {
			return best.in
		}
	}
	return r.variables[name]
}

func (r *reference) alive(v val) bool {
	return v.kind == 'a' && !v.in.gone && v.n >= 0 && v.n < len(v.in.words)
}

func (r *reference) load(v val) val {
	r.asks(r.alive(v))
	r.asks(v.in.bytes[v.n] == nil)
	return v.in.words[v.n]
}

func (r *reference) store(v, w val) {
	r.asks(r.alive(v))
	r.asks(v.in.bytes[v.n] == nil)
	v.in.words[v.n] = w
}

// byteAt returns the bytes of the cell of a byte, and its number in them.
func (r *reference) byteAt(v, i val) (val, int) {
	r.asks(v.kind == 'a')
	r.asks(i.kind == 'n')
	size := r.f.Bits / 8
	cell := i.n / size
	if i.n%size < 0 {
		cell--
	}
	to := val{kind: 'a', in: v.in, n: v.n + cell}
	r.asks(r.alive(to))
	onlyBytes := true
	for _, w := range v.in.words {
		onlyBytes = onlyBytes && w.kind == 0
	}
	if v.in.kind == "text" {
		r.needs(v.n == 0 && i.n <= v.in.length)
	} else {
		r.needs(v.n == 0 && onlyBytes)
	}
	return to, i.n - cell*size
}

func (r *reference) getByte(v, i val) val {
	to, k := r.byteAt(v, i)
	bytes := to.in.bytes[to.n]
	r.asks(bytes != nil)
	r.asks(bytes[k] >= 0)
	return val{kind: 'n', n: bytes[k]}
}

func (r *reference) setByte(v, i, w val) {
	to, k := r.byteAt(v, i)
	r.asks(w.kind == 'n')
	r.asks(to.in.words[to.n].kind == 0)
	if to.in.bytes[to.n] == nil {
		to.in.bytes[to.n] = slices.Repeat([]int{-1}, r.f.Bits/8)
	}
	to.in.bytes[to.n][k] = (w.n%256 + 256) % 256
}

func (r *reference) fitting(v val) bool {
	return v.in.kind != "text" || v.n == 0
}

func (r *reference) condition(v val) bool {
	switch v.kind {
	case 'n':
		return v.n != 0
	case 'a':
		r.asks(r.alive(v))
		r.needs(r.fitting(v))
	}
	r.asks(v.kind != 0)
	return true
}

func (r *reference) operate(op int, a, b val) val {
	r.asks(a.kind != 0 && b.kind != 0)
	kinds := string([]byte{a.kind, b.kind})
	relation, equality := op >= api.Eq && op <= api.Ge, op == api.Eq || op == api.Ne
	switch {
	case kinds == "nn":
		w, err := word.Apply(op, a.n, b.n, r.f.Bits)
		if err == api.ErrZero {
			r.end(api.Fault, 0, api.ErrZero)
		}
		exact, _ := word.Exact(op, a.n, b.n, r.f.Bits)
		r.needs(exact)
		return val{kind: 'n', n: w}
	case kinds == "an" && op == api.Add:
		return val{kind: 'a', in: a.in, n: a.n + b.n}
	case kinds == "an" && op == api.Sub:
		return val{kind: 'a', in: a.in, n: a.n - b.n}
	case kinds == "na" && op == api.Add:
		return val{kind: 'a', in: b.in, n: a.n + b.n}
	case kinds == "aa" && a.in == b.in && (relation || op == api.Sub):
		r.asks(a.n >= 0 && a.n <= len(a.in.words) && b.n >= 0 && b.n <= len(b.in.words))
		r.needs(r.fitting(a) && r.fitting(b))
		w, _ := word.Apply(op, a.n, b.n, 32)
		return r.number(w)
	}
	r.asks(equality && (kinds == "aa" && a.in != b.in || kinds == "pp" || kinds == "ap" || kinds == "pa" || b.kind == 'n' && b.n == 0 || a.kind == 'n' && a.n == 0))
	for _, v := range []val{a, b} {
		if v.kind == 'a' {
			r.asks(r.alive(v))
			r.needs(r.fitting(v))
		}
	}
	same := kinds == "pp" && a.name == b.name
	if same == (op == api.Eq) {
		return val{kind: 'n', n: -1}
	}
	return val{kind: 'n'}
}

// value computes a node as a value.
func (r *reference) value(n *api.Node, lv *level) val {
	r.step()
	switch n.Op {
	case api.ENum, api.ETrue, api.EFalse, api.ESlct:
		return r.fixed(n)
	case api.EAny:
		return val{}
	case api.EStr, api.ETable:
		return r.place(n)
	case api.EName:
		if in := r.find(n.S, lv); in != nil && (r.procs[n.S] == nil || in != r.variables[n.S]) {
			return r.load(val{kind: 'a', in: in})
		}
		if _, ok := r.manifests[n.S]; ok {
			return r.fixed(n)
		}
		return val{kind: 'p', name: n.S}
	case api.ECall:
		var args []val
		for i := range n.L[1:] {
			args = append(args, r.value(&n.L[1+i], lv))
		}
		return r.call(r.value(&n.L[0], lv), args)
	case api.ESub, api.ELoad:
		return r.load(r.address(n, lv))
	case api.EAddr:
		return r.address(&n.L[0], lv)
	case api.EByte:
		a := r.value(&n.L[0], lv)
		return r.getByte(a, r.value(&n.L[1], lv))
	case api.EBin:
		a := r.value(&n.L[0], lv)
		return r.operate(n.N, a, r.value(&n.L[1], lv))
	case api.EUn:
		v := r.value(&n.L[0], lv)
		r.asks(v.kind == 'n')
		return r.operate(n.N, v, val{kind: 'n', n: 1})
	case api.ECond:
		if r.condition(r.value(&n.L[0], lv)) {
			return r.value(&n.L[1], lv)
		}
		return r.value(&n.L[2], lv)
	case api.EValof:
		if o := r.command(&n.L[0], lv); o.how == "resultis" {
			return o.v
		}
		return val{kind: 'n'}
	}
	return r.field(n, lv)
}

func (r *reference) fixed(n *api.Node) val {
	v := r.constant(n)
	r.needs(v >= -32768 && v <= 32767)
	return r.number(v)
}

// place returns the address of the object of a string or table.
func (r *reference) place(n *api.Node) val {
	for i := range n.L {
		v := r.constant(&n.L[i])
		r.needs(v >= -32768 && v <= 32767)
	}
	if r.places[n] == nil {
		t := thingOf("table", len(n.L))
		for i := range n.L {
			t.words[i] = r.number(r.constant(&n.L[i]))
		}
		if n.Op == api.EStr {
			size := r.f.Bits / 8
			t = thingOf("text", (len(n.S)+size)/size)
			t.length = len(n.S)
			for i := range t.bytes {
				t.bytes[i] = make([]int, size)
			}
			t.bytes[0][0] = len(n.S)
			for i := range len(n.S) {
				t.bytes[(i+1)/size][(i+1)%size] = int(n.S[i])
			}
		}
		r.places[n] = t
	}
	return val{kind: 'a', in: r.places[n]}
}

// address computes where a node's value is, the node being no step.
func (r *reference) address(n *api.Node, lv *level) val {
	v := val{kind: 'a'}
	switch n.Op {
	case api.EName:
		v.in = r.find(n.S, lv)
	case api.ELoad:
		v = r.value(&n.L[0], lv)
	case api.ESub:
		a := r.value(&n.L[0], lv)
		v = r.operate(api.Add, a, r.value(&n.L[1], lv))
	}
	r.asks(v.kind == 'a')
	return v
}

func (r *reference) parts(n *api.Node) (size, shift, offset int) {
	v := r.constant(n)
	return v & 31, v >> 5 & 31, v >> 10
}

// field computes an ESel.
func (r *reference) field(n *api.Node, lv *level) val {
	size, shift, offset := r.parts(&n.L[0])
	v := r.value(&n.L[1], lv)
	r.asks(v.kind == 'a')
	v.n += offset
	w := r.load(v)
	r.asks(w.kind == 'n')
	r.needs(w.n >= 0 && w.n <= 32767)
	bits, _ := word.Apply(api.Shr, w.n, shift, r.f.Bits)
	if size > 0 {
		bits %= 1 << size
		bits = (bits + 1<<size) % (1 << size)
	}
	return r.number(bits)
}

func (r *reference) setField(left, right *api.Node, lv *level) {
	size, shift, offset := r.parts(&left.L[0])
	p := r.value(&left.L[1], lv)
	v := r.value(right, lv)
	r.asks(p.kind == 'a')
	p.n += offset
	old := r.load(p)
	r.asks(old.kind == 'n')
	r.asks(v.kind == 'n')
	if size == 0 {
		r.needs(v.n >= 0 && v.n<<shift <= 32767)
		size = 40
	}
	changed := old.n
	for i := range size {
		changed = changed&^(1<<(shift+i)) | v.n>>i&1<<(shift+i)
	}
	w := r.number(changed)
	r.needs(old.n >= 0 && old.n <= 32767 && w.n >= 0 && w.n <= 32767)
	r.store(p, w)
}

func (r *reference) call(called val, args []val) val {
	r.asks(called.kind == 'p')
	d := r.procs[called.name]
	if d == nil {
		v := r.given(called.name, args)
		r.tell(called.name)
		return v
	}
	r.asks(len(args) == len(d.L)-1)
	room := 2 + len(args) + r.room(d) + 10*parse.Levels(*d)
	all := room
	for _, words := range r.rooms {
		all += words
	}
	if len(r.rooms) >= api.MaxCalls || all > api.MaxFrame {
		r.end(api.Fault, 0, api.ErrRoom)
	}
	r.tell(called.name)
	r.rooms = append(r.rooms, room)
	lv := &level{}
	for i, v := range args {
		lv.names = append(lv.names, bound{d.L[i].S, -1, cellOf("local", v)})
	}
	v := val{kind: 'n'}
	if d.N == 0 {
		v = r.value(&d.L[len(args)], lv)
	} else {
		r.command(&d.L[len(args)], lv)
	}
	lv.close(-1)
	r.rooms = r.rooms[:len(r.rooms)-1]
	return v
}

func (r *reference) tell(name string) {
	if len(r.trace) < 1000 {
		r.trace = append(r.trace, name)
	}
}

// room returns how many words the locals of a procedure have.
func (r *reference) room(n *api.Node) int {
	words := 0
	switch n.Op {
	case api.CLet:
		words = n.N
	case api.CVec:
		words = r.constant(&n.L[0]) + 2
	case api.CFor:
		words = 2
	}
	for i := range n.L {
		words += r.room(&n.L[i])
	}
	return words
}

func (r *reference) given(name string, args []val) val {
	want, ok := map[string]int{"rdch": 0, "wrch": 1, "stop": 1, "getvec": 1, "freevec": 1, "muldiv": 3}[name]
	r.asks(ok && len(args) == want)
	if name == "freevec" {
		v := args[0]
		r.asks(v.kind == 'n' && v.n == 0 || r.alive(v) && v.in.kind == "heap" && v.n == 0)
		if v.kind == 'a' {
			v.in.gone = true
		}
		return val{kind: 'n'}
	}
	for _, v := range args {
		r.asks(v.kind == 'n')
	}
	switch name {
	case "rdch":
		if r.input == "" {
			return val{kind: 'n', n: -1}
		}
		b := r.input[0]
		r.input = r.input[1:]
		return val{kind: 'n', n: int(b)}
	case "wrch":
		if len(r.out) >= api.MaxOutput {
			r.end(api.Fault, 0, api.ErrLimit)
		}
		r.out = append(r.out, byte(args[0].n))
	case "stop":
		r.end(api.Stopped, args[0].n, 0)
	case "getvec":
		if n := args[0].n; n >= 0 && n+1 <= r.heap {
			r.heap -= n + 1
			return val{kind: 'a', in: thingOf("heap", n+1)}
		}
		r.needs(false)
	case "muldiv":
		a, b, c := args[0].n, args[1].n, args[2].n
		if c == 0 {
			r.end(api.Fault, 0, api.ErrZero)
		}
		r.needs(a*b >= -32768 && a*b <= 32767 && a*b/c <= 32767)
		return r.number(a * b / c)
	}
	return val{kind: 'n'}
}

// command runs a command, block or item.
func (r *reference) command(n *api.Node, lv *level) outcome {
	r.step()
	switch n.Op {
	case api.CAssign:
		for i := range n.N {
			r.assign(&n.L[i], &n.L[n.N+i], lv)
		}
	case api.CCall:
		r.value(&n.L[0], lv)
	case api.CIf, api.CUnless, api.CTest:
		holds := r.condition(r.value(&n.L[0], lv))
		if holds != (n.Op == api.CUnless) {
			return r.command(&n.L[1], lv)
		}
		if n.Op == api.CTest {
			return r.command(&n.L[2], lv)
		}
	case api.CWhile, api.CUntil, api.CRepeat, api.CRepWh, api.CRepUn:
		return r.loop(n, lv)
	case api.CFor:
		return r.count(n, lv)
	case api.CSwitch:
		return r.choose(n, lv)
	case api.CBreak:
		return outcome{how: "break"}
	case api.CLoop:
		return outcome{how: "loop"}
	case api.CEndcase:
		return outcome{how: "endcase"}
	case api.CReturn:
		return outcome{how: "return"}
	case api.CResult:
		return outcome{how: "resultis", v: r.value(&n.L[0], lv)}
	case api.CGoto:
		for ; ; lv = lv.up {
			if lv.label(n.S) >= 0 {
				return outcome{how: "goto", to: lv, label: n.S}
			}
		}
	case api.CFinish:
		r.end(api.Stopped, 0, 0)
	case api.CBlock:
		return r.block(n, lv, 0)
	case api.CLet:
		var things []*thing
		for i := range n.N {
			things = append(things, cellOf("local", r.value(&n.L[n.N+i], lv)))
		}
		for i, t := range things {
			lv.names = append(lv.names, bound{n.L[i].S, lv.at, t})
		}
	case api.CVec:
		v := thingOf("vec", r.constant(&n.L[0])+1)
		lv.names = append(lv.names, bound{n.S, lv.at, cellOf("local", val{kind: 'a', in: v})}, bound{"", lv.at, v})
	}
	return outcome{}
}

func (r *reference) assign(left, right *api.Node, lv *level) {
	if left.Op == api.ESel {
		r.setField(left, right, lv)
		return
	}
	v := r.value(right, lv)
	if left.Op == api.EByte {
		a := r.value(&left.L[0], lv)
		r.setByte(a, r.value(&left.L[1], lv), v)
		return
	}
	r.store(r.address(left, lv), v)
}

func (r *reference) loop(n *api.Node, lv *level) outcome {
	body := &n.L[0]
	if n.Op == api.CWhile || n.Op == api.CUntil {
		body = &n.L[1]
	}
	for {
		if body != &n.L[0] && r.condition(r.value(&n.L[0], lv)) != (n.Op == api.CWhile) {
			return outcome{}
		}
		if o := r.command(body, lv); o.how == "break" {
			return outcome{}
		} else if o.how != "" && o.how != "loop" {
			return o
		}
		if n.Op == api.CRepWh || n.Op == api.CRepUn {
			if r.condition(r.value(&n.L[1], lv)) != (n.Op == api.CRepWh) {
				return outcome{}
			}
		}
	}
}

func (r *reference) count(n *api.Node, lv *level) outcome {
	from := r.value(&n.L[0], lv)
	to := r.value(&n.L[1], lv)
	by := 1
	if n.N == 1 {
		by = r.constant(&n.L[2])
	}
	r.needs(by >= -32768 && by <= 32767)
	in := &level{up: lv, names: []bound{{n.S, -1, cellOf("local", from)}}}
	i := val{kind: 'a', in: in.names[0].in}
	o := outcome{}
	for {
		v := r.load(i)
		r.asks(v.kind == 'n' && to.kind == 'n')
		op := api.Le
		if by < 0 {
			op = api.Ge
		}
		if r.operate(op, v, to).n == 0 {
			break
		}
		if o = r.command(&n.L[len(n.L)-1], in); o.how != "" && o.how != "loop" {
			break
		}
		v = r.load(i)
		r.asks(v.kind == 'n')
		r.store(i, r.operate(api.Add, v, r.number(by)))
	}
	in.close(-1)
	if o.how == "break" || o.how == "loop" {
		return outcome{}
	}
	return o
}

func (r *reference) choose(n *api.Node, lv *level) outcome {
	v := r.value(&n.L[0], lv)
	r.asks(v.kind == 'n')
	found, otherwise := -1, -1
	for i, c := range refItems(&n.L[1]) {
		if c.Op == api.CDefault {
			otherwise = i
		}
		if c.Op == api.CCase {
			k := r.constant(&c.L[0])
			r.needs(k >= -32768 && k <= 32767)
			if found < 0 && r.number(k) == v {
				found = i
			}
		}
	}
	if found < 0 {
		found = otherwise
	}
	if found < 0 {
		return outcome{}
	}
	r.step()
	if o := r.block(&n.L[1], lv, found); o.how != "endcase" {
		return o
	}
	return outcome{}
}

// refItems returns the items of a block, also those behind labels, cases and defaults.
func refItems(n *api.Node) []*api.Node {
	var list []*api.Node
	for i := range n.L {
		item := &n.L[i]
		for ; item.Op == api.CLabel || item.Op == api.CCase || item.Op == api.CDefault; item = &item.L[len(item.L)-1] {
			list = append(list, item)
		}
		list = append(list, item)
	}
	return list
}

func (r *reference) block(n *api.Node, up *level, from int) outcome {
	lv := &level{up: up, items: refItems(n)}
	lv.jump(from)
	for lv.at < len(lv.items) {
		item := lv.items[lv.at]
		o := outcome{}
		if item.Op == api.CLabel || item.Op == api.CCase || item.Op == api.CDefault {
			r.step()
		} else {
			o = r.command(item, lv)
		}
		switch {
		case o.how == "":
			lv.at++
		case o.how == "goto" && o.to == lv:
			lv.jump(lv.label(o.label))
		default:
			lv.close(-1)
			return o
		}
	}
	lv.close(-1)
	return outcome{}
}

// label returns the item that a label of a level is, or -1.
func (lv *level) label(name string) int {
	return slices.IndexFunc(lv.items, func(n *api.Node) bool { return n.Op == api.CLabel && n.S == name })
}

// close ends the names of items from one on, and those of no item if it is -1.
func (lv *level) close(item int) {
	var left []bound
	for _, b := range lv.names {
		if b.item >= item {
			b.in.gone = true
		} else {
			left = append(left, b)
		}
	}
	lv.names = left
}

// jump goes to an item.
func (lv *level) jump(to int) {
	lv.close(to)
	for i, item := range lv.items[:to] {
		if slices.ContainsFunc(lv.names, func(b bound) bool { return b.item == i }) {
			continue
		}
		switch item.Op {
		case api.CLet:
			for _, name := range item.L[:item.N] {
				lv.names = append(lv.names, bound{name.S, i, cellOf("local", val{})})
			}
		case api.CVec:
			lv.names = append(lv.names, bound{item.S, i, cellOf("local", val{})})
		}
	}
	lv.at = to
}
