package ocode

import (
	"math"

	"bluebell/api"
	"bluebell/lex"
)

// Limits that api does not have.
const (
	maxAreas  = 2000
	maxLabels = 20000
	maxCases  = 1000
	maxDepth  = 4000
	linkSize  = 2 // words below a frame's locals
)

// Check tells what is wrong with code (P6.1).
func Check(c api.Code) api.Errno {
	switch {
	case !isWithinLimits(c):
		return api.ErrLimit
	case !isCode(c):
		return api.ErrCode
	case !keepsDepths(c.Ops) || !reachesTakes(c):
		return api.ErrStack
	}
	return api.OK
}

func isWithinLimits(c api.Code) bool {
	if len(c.Ops) > api.MaxOps || len(c.Data) > maxAreas {
		return false
	}
	words := 0
	for _, d := range c.Data {
		words += mostWords(d)
	}
	return words <= api.StaticSize && max(c.Procs, count(c.Ops, api.OEnter)) <= api.MaxProcs && max(c.Labels, count(c.Ops, api.OLabel)) <= maxLabels
}

// mostWords returns how many words an area has by 16 bits; longer words are no more.
func mostWords(d api.Data) int {
	if d.IsText {
		return (len(d.Text) + 2) / 2
	}
	return len(d.Words)
}

func count(ops []api.Op, op int) int {
	n := 0
	for _, o := range ops {
		if o.Op == op {
			n++
		}
	}
	return n
}

// isCode reports whether code within the limits is as said, its depths aside.
func isCode(c api.Code) bool {
	_, err := lex.Quote(c.Name)
	return err == api.OK && haveNumbers(c) && haveCases(c.Ops) && haveProcedures(c) && haveLabels(c) && areAreas(c.Data) && areEntries(c)
}

// haveNumbers reports whether all instructions are some, with numbers that they may have.
func haveNumbers(c api.Code) bool {
	for _, o := range c.Ops {
		if !isInstruction(o.Op) {
			return false
		}
		row := instructions[o.Op]
		if !row.n.allows(o.N, c) || !row.m.allows(o.M, c) {
			return false
		}
	}
	return true
}

// allows reports whether a number of a kind may be n.
func (k kind) allows(n int, c api.Code) bool {
	least, most := k.bounds(c)
	return n >= least && n <= most
}

func (k kind) bounds(c api.Code) (least, most int) {
	switch k {
	case number:
		return math.MinInt32, math.MaxInt32
	case local:
		return 0, maxDepth
	case global:
		return 0, api.GlobalSize - 1
	case static:
		return 0, len(c.Data) - 1
	case procedure:
		return 1, c.Procs
	case label:
		return 1, c.Labels
	case binary:
		return api.Mul, api.Ge
	case unary:
		return api.Neg, api.Not
	case parameters:
		return 0, api.MaxArgs
	case cases:
		return 0, maxCases
	}
	return 0, 0
}

// haveCases reports whether cases stand behind their switches, and nowhere else.
func haveCases(ops []api.Op) bool {
	missing := 0
	for _, o := range ops {
		switch {
		case (o.Op == api.OCase) != (missing > 0):
			return false
		case o.Op == api.OCase:
			missing--
		case o.Op == api.OSwitch:
			missing = o.M
		}
	}
	return missing == 0
}

// haveProcedures reports whether code is a list of all its procedures, each of which ends.
func haveProcedures(c api.Code) bool {
	procs := 0
	for i, o := range c.Ops {
		if o.Op == api.OEnter {
			procs++
		}
		if procs == 0 || o.Op == api.OEnter && o.N != procs {
			return false
		}
		isLast := i+1 == len(c.Ops) || c.Ops[i+1].Op == api.OEnter
		if isLast && goesOn(c.Ops, i) {
			return false
		}
	}
	return procs == c.Procs
}

// haveLabels reports whether labels are where they are named, and followed by a depth.
func haveLabels(c api.Code) bool {
	homes := make([]int, max(c.Labels, 0)+1) // the procedures of labels
	proc := 0
	for i, o := range c.Ops {
		switch o.Op {
		case api.OEnter:
			proc = o.N
		case api.OLabel:
			if homes[o.N] != 0 || i+1 == len(c.Ops) || !setsDepth(c.Ops[i+1].Op) {
				return false
			}
			homes[o.N] = proc
		}
	}
	for _, o := range c.Ops {
		if o.Op == api.OEnter {
			proc = o.N
		}
		if l := named(o); l != 0 && homes[l] != proc {
			return false
		}
	}
	return c.Labels == 0 || c.Labels > 0 && homes[c.Labels] != 0
}

// setsDepth reports whether a label may be followed by an instruction.
func setsDepth(op int) bool {
	return op == api.OStack || op == api.OTake || op == api.OLabel
}

func areAreas(areas []api.Data) bool {
	for _, d := range areas {
		if !isArea(d) {
			return false
		}
	}
	return true
}

func isArea(d api.Data) bool {
	if d.IsText {
		_, err := lex.Quote(d.Text)
		return err == api.OK && len(d.Words) == 0
	}
	for _, w := range d.Words {
		if w < math.MinInt32 || w > math.MaxInt32 {
			return false
		}
	}
	return d.Text == "" && len(d.Words) > 0
}

func areEntries(c api.Code) bool {
	var known [api.GlobalSize]bool
	for _, e := range c.Globals {
		if e.Global < 1 || e.Global >= api.GlobalSize || known[e.Global] || !procedure.allows(e.Proc, c) {
			return false
		}
		known[e.Global] = true
	}
	return true
}
