package ocode

import (
	"slices"

	"bluebell/api"
)

// Jumps returns how often each label is named (P6.4).
func Jumps(c api.Code) ([]int, api.Errno) {
	if err := Check(c); err != api.OK {
		return nil, err
	}
	counts := make([]int, c.Labels)
	for _, o := range c.Ops {
		if l := named(o); l != 0 {
			counts[l-1]++
		}
	}
	return counts, api.OK
}

// Renumber returns code whose labels are 1, 2, .. in their order (P6.4).
func Renumber(c api.Code) (api.Code, api.Errno) {
	if err := Check(c); err != api.OK {
		return api.Code{}, err
	}
	renumbered := clone(c)
	renumbered.Labels = 0
	numbers := make([]int, c.Labels+1)
	for _, o := range c.Ops {
		if o.Op == api.OLabel {
			renumbered.Labels++
			numbers[o.N] = renumbered.Labels
		}
	}
	for i := range renumbered.Ops {
		if l := labelOf(&renumbered.Ops[i]); l != nil {
			*l = numbers[*l]
		}
	}
	return renumbered, api.OK
}

func clone(c api.Code) api.Code {
	c.Data = slices.Clone(c.Data)
	for i, d := range c.Data {
		c.Data[i].Words = slices.Clone(d.Words)
	}
	c.Ops = slices.Clone(c.Ops)
	c.Globals = slices.Clone(c.Globals)
	return c
}

// labelOf returns where an instruction has the number of a label; most have none.
func labelOf(o *api.Op) *int {
	row := instructions[o.Op]
	switch {
	case row.n == label:
		return &o.N
	case row.m == label:
		return &o.M
	}
	return nil
}

// named returns the label that an instruction names, or 0; an OLabel is where a label is, and names none.
func named(o api.Op) int {
	if l := labelOf(&o); l != nil && o.Op != api.OLabel {
		return *l
	}
	return 0
}

// labelPlaces returns the places of labels by their numbers.
func labelPlaces(c api.Code) []int {
	places := make([]int, c.Labels+1)
	for i, o := range c.Ops {
		if o.Op == api.OLabel {
			places[o.N] = i
		}
	}
	return places
}
