package mean_test

import (
	"math/rand"
	"slices"
	"strings"
	"testing"

	"bluebell/api"
	"bluebell/mean"
	"bluebell/parse"
	"bluebell/scope"
)

const (
	randomFuel = 2000
	input      = "some input"
)

// overPrograms looks at random programs; each is one for scope.
func overPrograms(t *testing.T, seed int64, programs int, look func(m *maker, s api.Section, text string)) {
	t.Helper()
	t.Parallel()
	for i := range programs {
		m := &maker{rand.New(rand.NewSource(seed + int64(i))), []int{40, 200, 1000000}[i%3]}
		s := m.program()
		text, err := parse.Print(s)
		if err == api.ErrLimit || err == api.ErrDeep {
			continue
		}
		if whole := scope.Whole(s); err != api.OK || whole != api.OK {
			t.Fatalf("%d: Print %q, error %d; Whole: error %d", i, text, err, whole)
		}
		look(m, s, text)
		if t.Failed() {
			return
		}
	}
}

// P5.1, P5.3: Run and Trace tell what the reference does.
func TestReference(t *testing.T) {
	ends, narrows, steps := map[[2]int]int{}, 0, 0
	overPrograms(t, 1, 1500, func(m *maker, s api.Section, text string) {
		f := pick(m, forms...)
		want := runReference(s, f, input, randomFuel)
		r, narrow, err := mean.Run(s, f, input, randomFuel)
		if err != api.OK || r != want.result || narrow != want.narrow {
			t.Errorf("Run(%s) by %v:\n%s, narrow %t, error %d; want\n%s, narrow %t", text, f, show(r), narrow, err, show(want.result), want.narrow)
		}
		if l, err := mean.Trace(s, f, input, randomFuel); err != api.OK || !slices.Equal(l, want.trace) {
			t.Errorf("Trace(%s) by %v: %q, error %d; want %q", text, f, l, err, want.trace)
		}
		if tame, err := mean.Tame(s, f, input, randomFuel); err != api.OK || tame != (r.End == api.Done || r.End == api.Stopped) {
			t.Errorf("Tame(%s) by %v: %t, error %d", text, f, tame, err)
		}
		ends[[2]int{r.End, int(r.Why)}]++
		steps += r.Steps
		if narrow {
			narrows++
		}
	})
	for _, end := range [][2]int{{api.Done}, {api.Stopped}, {api.Fuel}, {api.Fault, int(api.ErrZero)}, {api.Fault, int(api.ErrRoom)}, {api.Wild}} {
		if ends[end] == 0 {
			t.Errorf("no run ends with %v", end)
		}
	}
	if narrows < 500 || steps < 500000 {
		t.Errorf("%d narrow runs, %d steps", narrows, steps)
	}
}

// P5.4: less fuel gives a beginning, and more changes nothing of a tame run.
func TestFuel(t *testing.T) {
	overPrograms(t, 10000, 400, func(m *maker, s api.Section, text string) {
		f := pick(m, forms...)
		long, narrow, _ := mean.Run(s, f, input, randomFuel)
		trace, _ := mean.Trace(s, f, input, randomFuel)
		for _, fuel := range []int{0, 1, m.Intn(50), m.Intn(randomFuel), long.Steps - 1, long.Steps, long.Steps + 1, randomFuel + m.Intn(1000)} {
			r, isNarrow, err := mean.Run(s, f, input, max(fuel, 0))
			l, _ := mean.Trace(s, f, input, max(fuel, 0))
			beginning, rest := r, long
			if fuel >= randomFuel {
				beginning, rest = rest, beginning
				l, trace = trace, l
			}
			if err != api.OK || !strings.HasPrefix(rest.Out, beginning.Out) || beginning.Steps > rest.Steps || len(l) > len(trace) || !slices.Equal(l, trace[:len(l)]) {
				t.Fatalf("%s by %v: with fuel %d %s, error %d; with %d %s", text, f, fuel, show(r), err, randomFuel, show(long))
			}
			if fuel >= randomFuel {
				l, trace = trace, l
			}
			if fuel < long.Steps && (r.End != api.Fuel || r.Steps != max(fuel, 0)) || fuel >= long.Steps && long.End != api.Fuel && (r != long || narrow != isNarrow) {
				t.Fatalf("%s by %v: with fuel %d %s, error %d; with %d %s", text, f, fuel, show(r), err, randomFuel, show(long))
			}
		}
	})
}

// P5.5: a narrow run is the same one by longer words, whatever the order of bytes.
func TestNarrowRuns(t *testing.T) {
	count := 0
	overPrograms(t, 20000, 700, func(m *maker, s api.Section, text string) {
		for i, f := range forms {
			r, narrow, err := mean.Run(s, f, input, randomFuel)
			if !narrow {
				continue
			}
			count++
			for _, longer := range forms[i/2*2+2:] {
				other, also, e := mean.Run(s, longer, input, randomFuel)
				if err != api.OK || e != api.OK || r != other || !also {
					t.Fatalf("%s by %v: %s, error %d; by %v: %s, narrow %t, error %d", text, f, show(r), err, longer, show(other), also, e)
				}
			}
		}
	})
	if count < 1000 {
		t.Errorf("only %d runs are narrow", count)
	}
}

// P5.6: a program that is printed and read again means the same, and so does one with its procedures in another order.
func TestOtherTexts(t *testing.T) {
	overPrograms(t, 30000, 500, func(m *maker, s api.Section, text string) {
		f := pick(m, forms...)
		r, narrow, _ := mean.Run(s, f, input, randomFuel)
		trace, _ := mean.Trace(s, f, input, randomFuel)
		back, err, _ := parse.Parse(text)
		other := api.Section{Decls: slices.Clone(s.Decls)}
		procs := other.Decls[3:]
		m.Shuffle(len(procs), func(i, k int) { procs[i], procs[k] = procs[k], procs[i] })
		for _, same := range []api.Section{back, other} {
			q, isNarrow, e := mean.Run(same, f, input, randomFuel)
			l, _ := mean.Trace(same, f, input, randomFuel)
			if err != api.OK || e != api.OK || q != r || narrow != isNarrow || !slices.Equal(l, trace) {
				t.Errorf("%s by %v: %s; in another text %s, errors %d and %d", text, f, show(r), show(q), err, e)
			}
		}
	})
}
