package trans

import (
	"bluebell/api"
	"bluebell/scope"
)

// translator puts the code of trees that scope has passed behind the code so far.
type translator struct {
	writer
	around
	names
}

func newTranslator(tops []scope.Top) *translator {
	return &translator{names: newNames(tops)}
}

func (t *translator) section(s api.Section) {
	t.code.Name = s.Name
	for _, d := range s.Decls {
		if d.Op == api.DStatic {
			t.statics(d.L)
		}
	}
	for _, d := range s.Decls {
		if d.Op == api.DProc {
			t.procedure(d)
		}
	}
}

func (t *translator) statics(consts []api.Node) {
	for _, c := range consts {
		t.area(api.Data{Words: []int{t.constant(c.L[0])}})
	}
}

func (t *translator) procedure(d api.Node) {
	params := len(d.L) - 1
	t.code.Procs++
	t.add(api.Op{Op: api.OEnter, N: t.code.Procs, M: params})
	t.depth = linkSize + params
	if o := t.outside[d.S]; o.Op == api.OGlobal {
		t.code.Globals = append(t.code.Globals, api.Entry{Global: o.N, Proc: t.code.Procs})
	}
	t.knowAll(d.L[:params], linkSize)
	if body := d.L[params]; d.N == 0 {
		t.expression(body)
		t.pop(1, api.OReturn, 0)
	} else {
		t.command(body)
		t.put(api.OBack, 0)
	}
	t.forget(0)
}
