package mean

import (
	"bluebell/api"
	"bluebell/word"
)

// placeOfByte returns the cell in which the byte `base % index` is, and its number in the cell.
func (m *machine) placeOfByte(base, index value) (cell address, k int) {
	a, i := addressOf(base), numberOf(index)
	n := wordBytes(m.form)
	k = (i%n + n) % n
	cell = usable(a.moved((i - k) / n))
	m.require(a.at == 0 && hasByte(a.in, i))
	return cell, k
}

// hasByte reports whether an object may be asked for its byte i in a narrow run.
func hasByte(o *object, i int) bool {
	if o.text {
		return i <= o.length
	}
	return o.words == 0
}

// getByte returns `base % index`.
func (m *machine) getByte(base, index value) value {
	cell, k := m.placeOfByte(base, index)
	return number(cell.in.byteAt(cell.at, k))
}

// setByte does `base % index := v`.
func (m *machine) setByte(base, index, v value) {
	cell, k := m.placeOfByte(base, index)
	cell.in.setByte(cell.at, k, numberOf(v)&0xff)
}

// selector tells some bits of a word that is at an offset.
type selector struct {
	size, shift, offset int
}

// mask has as many bits as a selector tells, all if it tells none.
func (s selector) mask() int {
	if s.size == 0 {
		return -1
	}
	return 1<<s.size - 1
}

// getBits returns `s of p`.
func (m *machine) getBits(s selector, p value) value {
	w := numberOf(load(addressOf(p).moved(s.offset)))
	m.require(isNarrowField(w))
	bits, _ := word.Apply(api.Shr, w, s.shift, m.form.Bits)
	bits, _ = word.Apply(api.And, bits, s.mask(), m.form.Bits)
	return number(bits)
}

// setBits does `s of p := v`.
func (m *machine) setBits(s selector, p, v value) {
	a := addressOf(p).moved(s.offset)
	old, bits := numberOf(load(a)), numberOf(v)&s.mask()
	changed := old&^(s.mask()<<s.shift) | bits<<s.shift
	m.require(isNarrowField(old) && isNarrowField(changed))
	w, _ := word.Norm(changed, m.form.Bits)
	store(a, number(w))
}

// isNarrowField reports whether a word with bits that are told by selectors may be so in a narrow run.
func isNarrowField(n int) bool {
	return n >= 0 && isNarrow(n)
}
