package ocode

import (
	"strconv"
	"strings"

	"bluebell/api"
	"bluebell/lex"
)

// Read returns the code that has a text, or what is wrong, and the number of the first line that is not as said (P6.2).
func Read(s string) (api.Code, api.Errno, int) {
	var r reader
	line := 1
	for ; r.next != behindEnd; line++ {
		text, rest, ended := strings.Cut(s, "\n")
		if !ended || !r.line(text) {
			return api.Code{}, api.ErrCode, line
		}
		s = rest
	}
	if s != "" {
		return api.Code{}, api.ErrCode, line
	}
	if err := Check(r.code); err != api.OK {
		return api.Code{}, err, 0
	}
	return r.code, api.OK, 0
}

// part is a part of a text.
type part int

// The parts stand in this order.
const (
	inName part = iota
	inAreas
	inEntries
	inOps
	behindEnd
)

// reader gathers what the lines of a text tell.
type reader struct {
	code api.Code
	next part // the first one of which the next line may be
}

// line takes up the next line, and reports whether it is as said.
func (r *reader) line(s string) bool {
	first, rest, _ := strings.Cut(s, " ")
	p := partOf(first)
	if p < r.next || r.next == inName && p != inName {
		return false
	}
	r.next = p
	switch p {
	case inName:
		r.next = inAreas
		return r.name(rest)
	case inAreas:
		return r.area(first, rest)
	case inEntries:
		return r.entry(rest)
	case behindEnd:
		return s == "end"
	}
	return r.op(first, rest)
}

// partOf returns the part to which a line with this first word belongs.
func partOf(first string) part {
	switch first {
	case "code":
		return inName
	case "text", "words":
		return inAreas
	case "entry":
		return inEntries
	case "end":
		return behindEnd
	}
	return inOps
}

func (r *reader) name(s string) bool {
	name, ok := unquote(s)
	r.code.Name = name
	return ok
}

func (r *reader) area(first, s string) bool {
	var d api.Data
	var ok bool
	if first == "text" {
		d.IsText = true
		d.Text, ok = unquote(s)
	} else {
		d.Words, ok = readNumbers(s)
	}
	r.code.Data = append(r.code.Data, d)
	return ok
}

func (r *reader) entry(s string) bool {
	l, ok := readNumbers(s)
	if !ok || len(l) != 2 {
		return false
	}
	r.code.Globals = append(r.code.Globals, api.Entry{Global: l[0], Proc: l[1]})
	return true
}

func (r *reader) op(name, s string) bool {
	op, ok := opNamed(name)
	if !ok {
		return false
	}
	row := instructions[op]
	first, second, two := strings.Cut(s, " ")
	if two != (row.m != nothing) {
		return false
	}
	o := api.Op{Op: op}
	if o.N, ok = row.n.read(first); !ok {
		return false
	}
	if two {
		if o.M, ok = row.m.read(second); !ok {
			return false
		}
	}
	r.add(o)
	return true
}

func (r *reader) add(o api.Op) {
	r.code.Ops = append(r.code.Ops, o)
	switch o.Op {
	case api.OEnter:
		r.code.Procs = max(r.code.Procs, o.N)
	case api.OLabel:
		r.code.Labels = max(r.code.Labels, o.N)
	}
}

// unquote returns the string that lex.Quote writes so.
func unquote(s string) (string, bool) {
	tokens, err, _ := lex.Scan(s)
	if err != api.OK || tokens[0].Kind != api.TString || quote(tokens[0].S) != s {
		return "", false
	}
	return tokens[0].S, true
}

func readNumbers(s string) ([]int, bool) {
	var l []int
	for _, text := range strings.Split(s, " ") {
		n, ok := readNumber(text)
		if !ok {
			return nil, false
		}
		l = append(l, n)
	}
	return l, true
}

// read returns the number of a kind that is written so; whether the kind takes it is not asked.
func (k kind) read(s string) (int, bool) {
	if !k.isOperator() {
		return readNumber(s)
	}
	least, most := k.bounds(api.Code{})
	for n := least; n <= most; n++ {
		if operators[n] == s {
			return n, true
		}
	}
	return 0, false
}

// readNumber returns the number that Go writes so.
func readNumber(s string) (int, bool) {
	n, err := strconv.Atoi(s)
	if err != nil || strconv.Itoa(n) != s {
		return 0, false
	}
	return n, true
}

// opNamed returns the Op of the instructions with a name.
func opNamed(name string) (int, bool) {
	for op, row := range instructions {
		if row.name == name && isInstruction(op) {
			return op, true
		}
	}
	return 0, false
}
