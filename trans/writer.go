package trans

import "bluebell/api"

const linkSize = 2 // words below a frame's locals

// writer has the code so far, and the depth behind it.
type writer struct {
	code  api.Code
	depth int
}

// add writes instructions, whatever they do to the depth.
func (w *writer) add(ops ...api.Op) {
	w.code.Ops = append(w.code.Ops, ops...)
}

// put writes an instruction that leaves the depth as it is.
func (w *writer) put(op, n int) {
	w.add(api.Op{Op: op, N: n})
}

// push writes an instruction that puts a value on top.
func (w *writer) push(op, n int) {
	w.put(op, n)
	w.depth++
}

// pop writes an instruction behind which there are fewer values.
func (w *writer) pop(count, op, n int) {
	w.put(op, n)
	w.depth -= count
}

// stack writes that the depth is d from here on.
func (w *writer) stack(d int) {
	w.put(api.OStack, d)
	w.depth = d
}

// newLabel returns the next label.
func (w *writer) newLabel() int {
	w.code.Labels++
	return w.code.Labels
}

// label writes that a label is here, and the depth d from here on.
func (w *writer) label(l, d int) {
	w.put(api.OLabel, l)
	w.stack(d)
}

// area adds an area, and returns its number.
func (w *writer) area(d api.Data) int {
	w.code.Data = append(w.code.Data, d)
	return len(w.code.Data) - 1
}
