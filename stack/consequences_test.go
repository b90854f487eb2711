package stack_test

import (
	"slices"
	"testing"

	"bluebell/api"
	"bluebell/mean"
	"bluebell/ocode"
	"bluebell/parse"
	"bluebell/stack"
)

const (
	randomFuel = 3000
	input      = "some input"
)

// overCodes looks at random codes.
func overCodes(t *testing.T, seed int64, codes int, look func(m *maker, c api.Code, f api.Form)) {
	t.Helper()
	t.Parallel()
	for i := range codes {
		m := newMaker(seed+int64(i), []int{5, 20, 1000000}[i%3])
		c := read(t, m.code())
		look(m, c, pick(m, forms...))
		if t.Failed() {
			return
		}
	}
}

// P8.1, P8.2, P8.3: all is as the reference says.
func TestReference(t *testing.T) {
	ends, steps, inCoroutines := map[[2]int]int{}, 0, 0
	overCodes(t, 1, 1200, func(m *maker, c api.Code, f api.Form) {
		r := newReference(c, f, input)
		machine := start(t, c, f, input, 0)
		for range randomFuel {
			if s, want := machine.State(), r.state(); s != want {
				t.Fatalf("State by %v: %v; want %v in %s", f, s, want, text(c))
			}
			if m.Intn(20) == 0 {
				if w, want := machine.Walk(), r.walk(); !slices.Equal(w, want) {
					t.Fatalf("Walk by %v: %v; want %v in %s", f, w, want, text(c))
				}
			}
			if r.result.End != api.Fuel {
				break
			}
			if r.co != 0 {
				inCoroutines++
			}
			r.step()
			if got := machine.Step(1); got != r.result {
				t.Fatalf("Step by %v: %v; want %v in %s", f, got, r.result, text(c))
			}
		}
		wantPeek(t, machine, 0, r.memory...)
		counts, err1 := stack.Profile(c, f, input, randomFuel)
		called, err2 := stack.Cover(c, f, input, randomFuel)
		if !slices.Equal(counts, r.began) || !slices.Equal(called, r.called) || err1 != api.OK || err2 != api.OK {
			t.Errorf("Profile, Cover by %v: %v, %v, errors %d and %d; want %v, %v in %s", f, counts, called, err1, err2, r.began, r.called, text(c))
		}
		ends[[2]int{r.result.End, int(r.result.Why)}]++
		steps += r.result.Steps
	})
	for _, end := range [][2]int{{api.Done}, {api.Fuel}, {api.Fault, int(api.ErrZero)}, {api.Fault, int(api.ErrAddress)}, {api.Fault, int(api.ErrCall)}, {api.Fault, int(api.ErrRoom)}, {api.Fault, int(api.ErrState)}} {
		if ends[end] == 0 {
			t.Errorf("no run ends with %v", end)
		}
	}
	if steps < 400000 || inCoroutines < 100000 {
		t.Errorf("%d steps, %d of them in coroutines", steps, inCoroutines)
	}
}

func text(c api.Code) string {
	s, _ := ocode.Text(c)
	return s
}

// P8.5: steps in any pieces, and Until with any places, come to the same end.
func TestPieces(t *testing.T) {
	overCodes(t, 10000, 600, func(m *maker, c api.Code, f api.Form) {
		want, err := stack.Run(c, f, input, randomFuel)
		machine := start(t, c, f, input, 0)
		result := machine.Step(0)
		for err == api.OK && result.End == api.Fuel && result.Steps < randomFuel {
			left := randomFuel - result.Steps
			n := min(left, 1+m.Intn(pick(m, 2, 30, 1000)))
			if m.Intn(2) == 0 {
				result = machine.Step(n)
				continue
			}
			places := make([]int, m.Intn(4))
			for i := range places {
				places[i] = m.Intn(len(c.Ops)+10) - 5
			}
			var done int
			done, err = machine.Until(places, n)
			before := result.Steps
			result = machine.Step(0)
			if s := machine.State(); done != result.Steps-before || done > n || done < n && !s.Ended && !slices.Contains(places, s.Place) {
				t.Errorf("Until(%v, %d) by %v: %d, %v, %v", places, n, f, done, result, s)
			}
		}
		if result != want || err != api.OK {
			t.Errorf("by %v: %v, error %d; want %v in %s", f, result, err, want, text(c))
		}
	})
}

// P8.5: the numbers of Profile add up to the steps, less the first call, whatever the fuel.
func TestSums(t *testing.T) {
	overCodes(t, 20000, 600, func(m *maker, c api.Code, f api.Form) {
		for _, fuel := range []int{1, m.Intn(100) + 1, randomFuel} {
			r, err1 := stack.Run(c, f, input, fuel)
			counts, err2 := stack.Profile(c, f, input, fuel)
			sum := 0
			for i, n := range counts {
				sum += n
				if op := c.Ops[i].Op; n != 0 && (op == api.OLabel || op == api.OCase) {
					t.Errorf("by %v: the instruction %d of %s: %d", f, i, text(c), n)
				}
			}
			if sum != r.Steps-1 || err1 != api.OK || err2 != api.OK {
				t.Errorf("by %v with fuel %d: %v, error %d; %v, error %d in %s", f, fuel, r, err1, counts, err2, text(c))
			}
		}
	})
}

// P8.4: programs that are tame end here as by their trees. (Package mean has the same of random ones.)
func TestTamePrograms(t *testing.T) {
	for _, src := range []string{
		"let start() be { let v = vec 100 ; for i = 2 to 100 do v ! i := true ; for i = 2 to 100 do if v ! i do { w(i) ; wrch(' ') ; { let k = i + i ; while k <= 100 do { v ! k := false ; k := k + i } } } }",
		"static { n = 0 } let start() be { queens(0, 0, 0, 0) ; w(n) } let queens(row, cols, up, down) be { if row = 6 do { n := n + 1 ; return } ; for c = 0 to 5 do { let a, b, d = 1 << c, 1 << (row + c), 1 << (row - c + 5) ; unless (cols & a) | (up & b) | (down & d) do queens(row + 1, cols | a, up | b, down | d) } }",
		"let start() be hanoi(5, 'a', 'b', 'c') let hanoi(n, x, y, z) be if n > 0 do { hanoi(n - 1, x, z, y) ; wrch(x) ; wrch(y) ; wrch(' ') ; hanoi(n - 1, z, y, x) }",
		"let start() be { let v, n = getvec(50), 0 ; let c = rdch() ; until c < 0 do { n := n + 1 ; v ! n := c ; c := rdch() } ; sort(v, n) ; for i = 1 to n do wrch(v ! i) ; freevec(v) } let sort(v, n) be for i = 2 to n do { let k, x = i, v ! i ; while k > 1 do { unless v ! (k - 1) > x do break ; v ! k := v ! (k - 1) ; k := k - 1 } ; v ! k := x }",
		"let start() be { let s = \"Hello, world\" ; for i = s % 0 to 1 by - 1 do wrch(upper(s % i)) ; stop(s % 0) } let upper(c) = ('a' <= c) & (c <= 'z') -> c - 32, c",
		"manifest { low = slct(4, 0, 0) ; high = slct(4, 4, 0) } let start() be { let p = 0 ; for i = 1 to 9 do { let q = getvec(1) ; q ! 0 := 0 ; low of q := i ; high of q := i * 3 ; q ! 1 := p ; p := q } ; until p = 0 do { w(low of p) ; wrch('.') ; w(high of p) ; wrch(' ') ; p := p ! 1 } }",
		"let start() be { let i = 0 ; again : i := i + 1 ; switchon i rem 4 into { case 1 : wrch('a') ; case 2 : wrch('b') ; endcase ; default : wrch('d') ; case 0 : { wrch('z') ; endcase } } ; if i < 12 do goto again ; w(i) }",
		"let start() be { w(collatz(27)) ; wrch(' ') ; w(muldiv(12345, 678, 9876)) ; wrch(' ') ; w(apply(twice, 21)) } let collatz(n) = valof { let k = 0 ; until n = 1 do { n := n & 1 -> 3 * n + 1, n / 2 ; k := k + 1 } ; resultis k } let apply(f, x) = f(x) let twice(x) = x + x",
		"let start() be { let b = vec 20 ; for i = 0 to 41 do b % i := 'A' + i rem 26 ; for i = 41 to 0 by - 3 do wrch(b % i) ; w(\"*\"abc\" % 0 + table(1, 2, 3) ! 2) } ",
		"let start() be { let x, y, z = 1, 2, ? ; z := y ; x, y := y, x ; w(x) ; w(y) ; w(z) ; { let x = x + 10 ; w(x) } ; unless x = 1 do w(x) ; { x := x + 1 ; if x > 5 do break } repeat ; w(x) ; finish }",
	} {
		wantAsMeant(t, src, "quick brown fox")
	}
}

func wantAsMeant(t *testing.T, src, input string) {
	t.Helper()
	c := compile(t, src)
	s, err, at := parse.Parse(src + writer)
	if err != api.OK {
		t.Fatalf("Parse(%q): error %d at %d", src, err, at)
	}
	for _, f := range forms {
		want, _, err1 := mean.Run(s, f, input, plenty)
		if want.End != api.Done && want.End != api.Stopped || err1 != api.OK {
			t.Errorf("%s by %v is not tame: %v, error %d", src, f, want, err1)
		}
		r, err2 := stack.Run(c, f, input, 30*want.Steps+1000)
		if r.Steps = want.Steps; r != want || err2 != api.OK {
			t.Errorf("Run(%q) by %v: %v, error %d; want %v", src, f, r, err2, want)
		}
	}
}
