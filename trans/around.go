package trans

import "slices"

// way is what leads to a label: a command by its Op, for a goto with the label's name, to a case with its constant.
type way struct {
	op       int
	name     string
	constant int
}

// around has the ways that loops, switches, blocks and valofs around a place give, those of the innermost one last.
type around struct {
	ways []wayTo
}

type wayTo struct {
	way
	label int
}

// lead adds a way to a label.
func (a *around) lead(w way, label int) {
	a.ways = append(a.ways, wayTo{w, label})
}

// leave drops the ways that were added since there were as many as count.
func (a *around) leave(count int) {
	a.ways = a.ways[:count]
}

// target returns the label to which the innermost one of like ways leads; scope has found that there is one.
func (a *around) target(w way) int {
	for _, to := range slices.Backward(a.ways) {
		if to.way == w {
			return to.label
		}
	}
	return 0
}
