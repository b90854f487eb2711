package ocode

import "bluebell/api"

// Depths returns the depth before each instruction (P6.3).
func Depths(c api.Code) ([]int, api.Errno) {
	if err := Check(c); err != api.OK {
		return nil, err
	}
	return depths(c.Ops), api.OK
}

// Room returns the greatest depth of each procedure (P6.3).
func Room(c api.Code) ([]int, api.Errno) {
	if err := Check(c); err != api.OK {
		return nil, err
	}
	rooms := make([]int, c.Procs)
	proc := 0
	for i, d := range depths(c.Ops) {
		o := c.Ops[i]
		if o.Op == api.OEnter {
			proc = o.N - 1
		}
		rooms[proc] = max(rooms[proc], d, behind(o, d))
	}
	return rooms, api.OK
}

func depths(ops []api.Op) []int {
	list := make([]int, len(ops))
	d := 0
	for i, o := range ops {
		if o.Op != api.OEnter {
			list[i] = d
		}
		d = behind(o, d)
	}
	return list
}

// behind returns the depth behind an instruction, before which it is d.
func behind(o api.Op, d int) int {
	switch o.Op {
	case api.OPutB:
		d--
		fallthrough
	case api.OStore:
		d--
		fallthrough
	case api.OPutL, api.OPutG, api.OPutS, api.OBin, api.OGetB, api.OTrue, api.OFalse, api.OSwitch, api.OReturn, api.OResult:
		d--
	case api.OCall, api.OTake:
		d = o.N
		fallthrough
	case api.ONum, api.OLocal, api.OAddrL, api.OGlobal, api.OAddrG, api.OStatic, api.OAddrS, api.OProc:
		d++
	case api.OStack:
		d = o.N
	case api.OEnter:
		d = linkSize + o.M
	}
	return d
}

// keepsDepths reports whether each instruction of code finds what it takes, names what is there, and leaves a depth that may be.
func keepsDepths(ops []api.Op) bool {
	for i, d := range depths(ops) {
		o := ops[i]
		if after := behind(o, d); after < linkSize || after > maxDepth || !fits(o, d) {
			return false
		}
		atLabel := i > 0 && ops[i-1].Op == api.OLabel
		if o.Op == api.OStack && !atLabel && o.N > d+api.MaxVec+2 {
			return false
		}
	}
	return true
}

// fits reports whether the locals that an instruction names, or takes and writes anew, are there at the depth d. Of what is taken away the depth behind tells.
func fits(o api.Op, d int) bool {
	switch o.Op {
	case api.OLocal, api.OPutL:
		return o.N >= linkSize && o.N < d
	case api.OAddrL:
		return o.N >= linkSize
	case api.OCall:
		return o.N >= linkSize && o.N+linkSize < d
	case api.OLoad, api.OUn:
		return d > linkSize
	case api.OBin, api.OGetB:
		return d > linkSize+1
	}
	return true
}

// reachesTakes reports whether results, and nothing else, lead to an OTake.
func reachesTakes(c api.Code) bool {
	toTake := leadingToTake(c.Ops)
	places := labelPlaces(c)
	for i, o := range c.Ops {
		if l := named(o); l != 0 && toTake[places[l]] != (o.Op == api.OResult) {
			return false
		}
		if o.Op != api.OLabel && goesOn(c.Ops, i) && toTake[i+1] {
			return false
		}
	}
	return true
}

// leadingToTake reports for each instruction whether it is an OTake, or a label that leads to one.
func leadingToTake(ops []api.Op) []bool {
	list := make([]bool, len(ops))
	for i := len(ops) - 1; i >= 0; i-- {
		list[i] = ops[i].Op == api.OTake || ops[i].Op == api.OLabel && list[i+1]
	}
	return list
}
