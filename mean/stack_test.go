package mean_test

import (
	"testing"

	"bluebell/api"
	"bluebell/mean"
	"bluebell/stack"
	"bluebell/trans"
)

// P8.4: a program that is tame ends on the stack machine as by its trees. (Layer 8 says so; the test stands where programs are made.)
func TestOnStackMachine(t *testing.T) {
	tame, steps := 0, 0
	overPrograms(t, 40000, 1000, func(m *maker, s api.Section, text string) {
		f := pick(m, forms...)
		want, _, err := mean.Run(s, f, input, randomFuel)
		if err != api.OK || want.End != api.Done && want.End != api.Stopped {
			return
		}
		tame++
		steps += want.Steps
		c, err := trans.Translate(s)
		r, e := stack.Run(c, f, input, 30*want.Steps+1000)
		if r.Steps = want.Steps; r != want || err != api.OK || e != api.OK {
			t.Errorf("Run(%s) by %v on the stack machine: %s, errors %d and %d; want %s", text, f, show(r), err, e, show(want))
		}
	})
	if tame < 400 || steps < 20000 {
		t.Errorf("%d tame runs, %d steps", tame, steps)
	}
}
