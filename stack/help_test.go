package stack_test

import (
	"strings"
	"testing"

	"bluebell/api"
	"bluebell/ocode"
	"bluebell/stack"
	"bluebell/trans"
)

const plenty = 1000000 // steps

var forms = []api.Form{{Bits: 16}, {Bits: 16, Big: true}, {Bits: 24}, {Bits: 24, Big: true}, {Bits: 32}, {Bits: 32, Big: true}}

// read reads code whose lines stand here with commas between them.
func read(t *testing.T, lines string) api.Code {
	t.Helper()
	c, err, line := ocode.Read("code \"\"\n" + strings.ReplaceAll(lines, ",", "\n") + "\nend\n")
	if err != api.OK {
		t.Fatalf("Read of %q: error %d in line %d", lines, err, line)
	}
	return c
}

// writer is a procedure that writes a number, which is not below 0.
const writer = " let w(n) be { if n > 9 do w(n / 10) ; wrch('0' + n rem 10) }"

// compile makes code of a source with the writer behind it.
func compile(t *testing.T, src string) api.Code {
	t.Helper()
	c, err, at := trans.Compile(src + writer)
	if err != api.OK {
		t.Fatalf("Compile(%q): error %d at %d", src, err, at)
	}
	return c
}

func done(out string) api.Result { return api.Result{Out: out} }

func stopped(out string, code int) api.Result {
	return api.Result{Out: out, End: api.Stopped, Code: code}
}

func faulted(out string, why api.Errno) api.Result {
	return api.Result{Out: out, End: api.Fault, Why: why}
}

// wantRun runs a source by forms, all of them if none is told; it does not look at the steps.
func wantRun(t *testing.T, src, input string, want api.Result, by ...api.Form) {
	t.Helper()
	c := compile(t, src)
	if len(by) == 0 {
		by = forms
	}
	for _, f := range by {
		r, err := stack.Run(c, f, input, plenty)
		if r.Steps = 0; r != want || err != api.OK {
			t.Errorf("Run(%q) by %v: %v, error %d; want %v", src, f, r, err, want)
		}
	}
}

// start makes a machine for code, and does steps.
func start(t *testing.T, c api.Code, f api.Form, input string, steps int) *stack.Machine {
	t.Helper()
	m, err := stack.New(c, f, input)
	if err != api.OK {
		t.Fatalf("New: error %d", err)
	}
	m.Step(steps)
	return m
}

// wantPeek looks at words from an address on.
func wantPeek(t *testing.T, m *stack.Machine, a int, want ...int) {
	t.Helper()
	for i, w := range want {
		if got, err := m.Peek(a + i); got != w || err != api.OK {
			t.Errorf("Peek(%d): %d, error %d; want %d", a+i, got, err, w)
		}
	}
}
