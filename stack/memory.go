package stack

import (
	"bluebell/api"
	"bluebell/word"
)

// memory is all words of a machine.
type memory [api.MemSize]int

func isAddress(a int) bool {
	return a >= 0 && a < api.MemSize
}

// word returns the word at an address.
func (m *memory) word(a int) int {
	if !isAddress(a) {
		panic(fault(api.ErrAddress))
	}
	return m[a]
}

// put writes a word at an address.
func (m *memory) put(a, w int) {
	if !isAddress(a) {
		panic(fault(api.ErrAddress))
	}
	m[a] = w
}

// byteAt returns the byte i of the words from an address on.
func (m *memory) byteAt(a, i int, f api.Form) int {
	a, i = bytePlace(a, i, f)
	b, _ := word.GetByte([]int{m.word(a)}, i, f) // no error: each word has a byte i
	return b
}

// putByte changes the byte i of the words from an address on.
func (m *memory) putByte(a, i, v int, f api.Form) {
	a, i = bytePlace(a, i, f)
	changed, _ := word.PutByte([]int{m.word(a)}, i, v, f)
	m[a] = changed[0]
}

// bytePlace returns the address of the word that has the byte i of the words from an address on, and which byte of it that is. The address need not be one.
func bytePlace(a, i int, f api.Form) (at, in int) {
	n := f.Bits / 8
	in = (i%n + n) % n
	return a + (i-in)/n, in
}
