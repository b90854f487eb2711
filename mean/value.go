package mean

import (
	"bluebell/api"
	"bluebell/word"
)

// value is what a word means: a number, an address, a *procedure, or nil, which is nothing. A cell of an object has such a value, or *packed bytes instead of one.
type value any

// number is a word of the machine's form.
type number int

// address is that of a cell, or of what would be one. A step moves it by no more than a word, so that its offset fits into 64 bits.
type address struct {
	in *object
	at int
}

// packed are the bytes of a cell.
type packed [mostBytes]int

const (
	mostBytes = 4  // of a word
	unwritten = -1 // what a byte of a cell is before it is written
)

// object is what has cells.
type object struct {
	cells  []value
	words  int // of the cells, those that have a value as a word
	ended  bool
	heap   bool    // getvec gave it
	text   bool    // it is a string's
	length int     // of the string
	vector *object // of the local of a CVec: ends with it
}

func newObject(cells int) *object {
	return &object{cells: make([]value, cells)}
}

// newCell returns an object with one cell.
func newCell(v value) *object {
	o := newObject(1)
	o.setWord(0, v)
	return o
}

// newText returns the object of a string, which has at most MaxString bytes.
func newText(s string, f api.Form) *object {
	words, _ := word.Pack(s, f)
	bytes, _ := word.Bytes(words, f)
	o := newObject(len(words))
	for i, b := range bytes {
		o.setByte(i/wordBytes(f), i%wordBytes(f), int(b))
	}
	o.text = true
	o.length = len(s)
	return o
}

func wordBytes(f api.Form) int {
	return f.Bits / 8
}

func (o *object) end() {
	o.ended = true
	if o.vector != nil {
		o.vector.ended = true
	}
}

// wordAt returns what a cell has as a word.
func (o *object) wordAt(i int) value {
	v := o.cells[i]
	if _, isBytes := v.(*packed); isBytes {
		panic(wild())
	}
	return v
}

// setWord stores a word in a cell.
func (o *object) setWord(i int, v value) {
	if o.wordAt(i) != nil {
		o.words--
	}
	if v != nil {
		o.words++
	}
	o.cells[i] = v
}

// byteAt returns the byte k of a cell.
func (o *object) byteAt(i, k int) int {
	bytes, ok := o.cells[i].(*packed)
	if !ok || bytes[k] == unwritten {
		panic(wild())
	}
	return bytes[k]
}

// setByte writes the byte k of a cell.
func (o *object) setByte(i, k, b int) {
	switch bytes := o.cells[i].(type) {
	case nil:
		fresh := packed{unwritten, unwritten, unwritten, unwritten}
		fresh[k] = b
		o.cells[i] = &fresh
	case *packed:
		bytes[k] = b
	default:
		panic(wild())
	}
}

func (a address) moved(by int) address {
	return address{a.in, a.at + by}
}

// isThere reports whether an address is that of a cell of an object that goes on.
func (a address) isThere() bool {
	return !a.in.ended && a.at >= 0 && a.at < len(a.in.cells)
}

// isBeside reports whether an address is that of a cell, or the one behind all cells.
func (a address) isBeside() bool {
	return a.at >= 0 && a.at <= len(a.in.cells)
}

// isNarrow reports whether an address may be a condition, or be held against others, in a narrow run: how many cells a string has hangs on the length of words.
func (a address) isNarrow() bool {
	return !a.in.text || a.at == 0
}

// numberOf returns a value that has to be a number.
func numberOf(v value) int {
	n, ok := v.(number)
	if !ok {
		panic(wild())
	}
	return int(n)
}

// addressOf returns a value that has to be an address.
func addressOf(v value) address {
	a, ok := v.(address)
	if !ok {
		panic(wild())
	}
	return a
}

// usable returns a value that has to be an address that is there.
func usable(v value) address {
	a := addressOf(v)
	if !a.isThere() {
		panic(wild())
	}
	return a
}

// load returns the word at an address.
func load(v value) value {
	a := usable(v)
	return a.in.wordAt(a.at)
}

// store stores a word at an address.
func store(v, w value) {
	a := usable(v)
	a.in.setWord(a.at, w)
}
