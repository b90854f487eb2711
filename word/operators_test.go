package word_test

import (
	"math"
	"math/big"
	"testing"

	"bluebell/api"
	"bluebell/word"
)

func apply(t *testing.T, op, a, b, bits int) int {
	t.Helper()
	v, err := word.Apply(op, a, b, bits)
	if err != api.OK {
		t.Errorf("Apply(%d, %d, %d, %d): error %d", op, a, b, bits, err)
	}
	return v
}

// P1.2
func TestApply(t *testing.T) {
	for _, x := range []struct{ op, a, b, bits, want int }{
		{api.Add, 32767, 1, 16, -32768}, {api.Sub, -32768, 1, 16, 32767}, {api.Mul, -32768, -1, 16, -32768}, {api.Mul, -1 << 31, -1 << 31, 32, 0},
		{api.Div, -7, 2, 16, -3}, {api.Rem, -7, 2, 16, -1}, {api.Div, 7, -2, 24, -3}, {api.Rem, 7, -2, 24, 1}, {api.Div, -7, -2, 32, 3}, {api.Rem, -7, -2, 32, -1},
		{api.Div, -32768, -1, 16, -32768}, {api.Rem, -32768, -1, 16, 0}, {api.Div, -1 << 23, -1, 24, -1 << 23}, {api.Rem, -1 << 23, -1, 24, 0}, {api.Div, -1 << 31, -1, 32, -1 << 31}, {api.Rem, -1 << 31, -1, 32, 0},
		{api.Div, 65543, 65538, 16, 3}, {api.Eq, 65541, 5, 16, -1}, {api.Lt, 32768, 0, 16, -1}, {api.Gt, 32768, 0, 24, -1},
		{api.Shl, 3, 0, 16, 3}, {api.Shl, 1, 15, 16, -32768}, {api.Shl, 1, 16, 16, 0}, {api.Shl, 1, 16, 24, 65536}, {api.Shl, 3, -1, 16, 0}, {api.Shl, 3, math.MaxInt, 16, 0}, {api.Shl, 3, 65537, 16, 6}, {api.Shl, -1 << 31, 31, 32, 0}, {api.Shl, -1, 31, 32, -1 << 31}, {api.Shl, 1, 32, 32, 0},
		{api.Shr, -1, 0, 16, -1}, {api.Shr, -1, 1, 16, 32767}, {api.Shr, -1, 15, 16, 1}, {api.Shr, -1, 16, 16, 0}, {api.Shr, -1, 23, 24, 1}, {api.Shr, -1, 24, 24, 0}, {api.Shr, -1, 1, 32, 1<<31 - 1}, {api.Shr, -1, 32, 32, 0}, {api.Shr, 8, -1, 32, 0}, {api.Shr, 8, 65535, 16, 0}, {api.Shr, 8, 65538, 16, 2}, {api.Shr, 65544, 1, 16, 4},
		{api.And, 12, 10, 16, 8}, {api.Or, 12, 10, 16, 14}, {api.Xor, 12, 10, 16, 6}, {api.Eqv, 12, 10, 16, -7}, {api.And, 65535, -1, 16, -1}, {api.Or, 0, 1 << 23, 24, -1 << 23}, {api.Xor, -1, 1, 32, -2},
		{api.Neg, 5, 0, 16, -5}, {api.Neg, -32768, 3, 16, -32768}, {api.Neg, -32768, 0, 24, 32768}, {api.Not, 0, 0, 16, -1}, {api.Not, 32767, 8, 16, -32768}, {api.Not, 65536, 0, 16, -1},
	} {
		if got, err := word.Apply(x.op, x.a, x.b, x.bits); got != x.want || err != api.OK {
			t.Errorf("Apply(%d, %d, %d, %d) = %d, %d; want %d", x.op, x.a, x.b, x.bits, got, err, x.want)
		}
	}
}

// P1.2: each relation on each side of the equal.
func TestRelations(t *testing.T) {
	for _, x := range []struct{ op, less, equal, greater int }{
		{api.Eq, 0, -1, 0}, {api.Ne, -1, 0, -1}, {api.Lt, -1, 0, 0}, {api.Le, -1, -1, 0}, {api.Gt, 0, 0, -1}, {api.Ge, 0, -1, -1},
	} {
		for _, bits := range lengths {
			for _, a := range []int{-30000, -1, 0, 1, 30000} {
				if got := apply(t, x.op, a, a+1, bits); got != x.less {
					t.Errorf("operator %d, %d bits, less: %d", x.op, bits, got)
				}
				if got := apply(t, x.op, a, a, bits); got != x.equal {
					t.Errorf("operator %d, %d bits, equal: %d", x.op, bits, got)
				}
				if got := apply(t, x.op, a+1, a, bits); got != x.greater {
					t.Errorf("operator %d, %d bits, greater: %d", x.op, bits, got)
				}
			}
		}
	}
}

func truth(holds bool) *big.Int {
	if holds {
		return big.NewInt(-1)
	}
	return new(big.Int)
}

// whole is what an operator that is not a shift gives for whole numbers of any size.
func whole(op int, a, b *big.Int) *big.Int {
	z := new(big.Int)
	switch op {
	case api.Mul:
		return z.Mul(a, b)
	case api.Div:
		return z.Quo(a, b)
	case api.Rem:
		return z.Rem(a, b)
	case api.Add:
		return z.Add(a, b)
	case api.Sub:
		return z.Sub(a, b)
	case api.And:
		return z.And(a, b)
	case api.Or:
		return z.Or(a, b)
	case api.Xor:
		return z.Xor(a, b)
	case api.Eqv:
		return z.Not(z.Xor(a, b))
	case api.Eq:
		return truth(a.Cmp(b) == 0)
	case api.Ne:
		return truth(a.Cmp(b) != 0)
	case api.Lt:
		return truth(a.Cmp(b) < 0)
	case api.Le:
		return truth(a.Cmp(b) <= 0)
	case api.Gt:
		return truth(a.Cmp(b) > 0)
	case api.Ge:
		return truth(a.Cmp(b) >= 0)
	case api.Neg:
		return z.Neg(a)
	}
	return z.Not(a)
}

// wantApply is the word that the chapter asks for, by whole numbers of any size.
func wantApply(op, a, b, bits int) int {
	x, y := normed(big.NewInt(int64(a)), bits), normed(big.NewInt(int64(b)), bits)
	if op != api.Shl && op != api.Shr {
		return int(normed(whole(op, x, y), bits).Int64())
	}
	places := y.Int64()
	if places < 0 || places >= int64(bits) {
		return 0
	}
	if op == api.Shl {
		return int(normed(x.Lsh(x, uint(places)), bits).Int64())
	}
	return int(normed(x.Rsh(modulo(x, bits), uint(places)), bits).Int64())
}

// wantExact is what the chapter asks of Exact, by whole numbers of any size.
func wantExact(op, a, b, bits int) bool {
	x, y := normedInt(a, bits), normedInt(b, bits)
	small := func(v int) bool { return -32768 <= v && v <= 32767 }
	one := op == api.Neg || op == api.Not
	if !small(x) || !one && !small(y) {
		return false
	}
	word := wantApply(op, a, b, bits)
	if op == api.Shl || op == api.Shr {
		if x < 0 || y < 0 || y > 15 {
			return false
		}
		result := x << y
		if op == api.Shr {
			result = x >> y
		}
		return small(word) && word == result
	}
	result := whole(op, big.NewInt(int64(x)), big.NewInt(int64(y)))
	return small(word) && result.Cmp(big.NewInt(int64(word))) == 0
}

// P1.2: every operator by every length, held against whole numbers of any size.
func TestApplyAndExactByWholeNumbers(t *testing.T) {
	list := samples()
	for op := api.Mul; op <= api.Not; op++ {
		for _, bits := range lengths {
			for _, a := range list {
				for _, b := range list {
					if (op == api.Div || op == api.Rem) && normedInt(b, bits) == 0 {
						continue
					}
					if got, want := apply(t, op, a, b, bits), wantApply(op, a, b, bits); got != want {
						t.Fatalf("Apply(%d, %d, %d, %d) = %d; want %d", op, a, b, bits, got, want)
					}
					got, err := word.Exact(op, a, b, bits)
					if want := wantExact(op, a, b, bits); got != want || err != api.OK {
						t.Fatalf("Exact(%d, %d, %d, %d) = %v, %d; want %v", op, a, b, bits, got, err, want)
					}
				}
			}
		}
	}
}

// P1.2
func TestExact(t *testing.T) {
	for _, x := range []struct {
		op, a, b, bits int
		want           bool
	}{
		{api.Add, 32766, 1, 16, true}, {api.Add, 32767, 1, 16, false}, {api.Add, 32767, 1, 32, false}, {api.Sub, -32768, 1, 24, false}, {api.Sub, -32767, 1, 24, true},
		{api.Mul, 181, 181, 16, true}, {api.Mul, 182, 182, 16, false}, {api.Mul, 256, 256, 16, false}, {api.Mul, -32768, 1, 16, true}, {api.Mul, 32768, -1, 24, false},
		{api.Div, -32768, -1, 16, false}, {api.Div, -32768, -1, 32, false}, {api.Rem, -32768, -1, 16, true}, {api.Rem, -32768, -1, 24, true}, {api.Div, 32768, 2, 24, false}, {api.Div, 65537, 1, 16, true},
		{api.Shl, 1, 14, 16, true}, {api.Shl, 1, 15, 16, false}, {api.Shl, 1, 15, 32, false}, {api.Shl, 0, 15, 16, true}, {api.Shl, 0, 16, 32, false}, {api.Shl, 0, 16, 16, false}, {api.Shl, 0, -1, 16, false}, {api.Shl, -1, 0, 16, false}, {api.Shl, 5, 65537, 16, true},
		{api.Shr, 32767, 0, 16, true}, {api.Shr, 9, 15, 32, true}, {api.Shr, 9, 16, 32, false}, {api.Shr, 0, -1, 24, false}, {api.Shr, -1, 0, 16, false}, {api.Shr, 32768, 1, 24, false},
		{api.And, 32767, -32768, 24, true}, {api.And, 65535, 1, 24, false}, {api.And, 65535, 1, 16, true}, {api.Or, 1, 32768, 24, false}, {api.Xor, -32768, 32767, 32, true}, {api.Eqv, -32768, 32767, 32, true},
		{api.Eq, 32767, 32767, 24, true}, {api.Eq, 40000, 1, 24, false}, {api.Lt, 1, 40000, 24, false}, {api.Ge, -32769, 1, 32, false},
		{api.Neg, -32768, 0, 16, false}, {api.Neg, -32768, 0, 24, false}, {api.Neg, 32767, 40000, 24, true}, {api.Not, -32768, 1 << 20, 32, true}, {api.Not, 32768, 0, 32, false},
	} {
		if got, err := word.Exact(x.op, x.a, x.b, x.bits); got != x.want || err != api.OK {
			t.Errorf("Exact(%d, %d, %d, %d) = %v, %d; want %v", x.op, x.a, x.b, x.bits, got, err, x.want)
		}
	}
}

// P1.2: errors in their order, ErrForm, ErrRange, ErrZero, with zero values beside them.
func TestOperatorErrors(t *testing.T) {
	check := func(op, a, b, bits int, want api.Errno) {
		t.Helper()
		if got, err := word.Apply(op, a, b, bits); got != 0 || err != want {
			t.Errorf("Apply(%d, %d, %d, %d) = %d, %d; want error %d", op, a, b, bits, got, err, want)
		}
		if got, err := word.Exact(op, a, b, bits); got || err != want {
			t.Errorf("Exact(%d, %d, %d, %d) = %v, %d; want error %d", op, a, b, bits, got, err, want)
		}
	}
	for _, bits := range badLengths {
		check(api.Add, 1, 2, bits, api.ErrForm)
		check(0, 1, 2, bits, api.ErrForm)
		check(api.Div, 1, 0, bits, api.ErrForm)
	}
	for _, bits := range lengths {
		for _, op := range []int{math.MinInt, -1, api.Mul - 1, api.Not + 1, math.MaxInt} {
			check(op, 1, 0, bits, api.ErrRange)
		}
		for _, b := range []int{0, 1 << bits, -1 << bits} { // all normed to 0
			check(api.Div, 1, b, bits, api.ErrZero)
			check(api.Rem, 40000, b, bits, api.ErrZero)
		}
	}
}

// P1.7: Div and Rem give a back, Eqv is Not of Xor, Shl by n is Mul by 2^n.
func TestOperatorsAgree(t *testing.T) {
	for _, bits := range lengths {
		for _, a := range samples() {
			for _, b := range samples() {
				if normedInt(b, bits) != 0 {
					product := apply(t, api.Mul, b, apply(t, api.Div, a, b, bits), bits)
					if got := apply(t, api.Add, product, apply(t, api.Rem, a, b, bits), bits); got != normedInt(a, bits) {
						t.Errorf("%d bits: %d by %d comes back as %d", bits, a, b, got)
					}
				}
				if x, y := apply(t, api.Eqv, a, b, bits), apply(t, api.Not, apply(t, api.Xor, a, b, bits), 0, bits); x != y {
					t.Errorf("%d bits: Eqv of %d and %d is %d, Not of Xor %d", bits, a, b, x, y)
				}
			}
			for n := range bits {
				if x, y := apply(t, api.Shl, a, n, bits), apply(t, api.Mul, a, 1<<n, bits); x != y {
					t.Errorf("%d bits: %d Shl %d is %d, Mul gives %d", bits, a, n, x, y)
				}
			}
		}
	}
}

// P1.7: what is exact by 16 bits is exact by 24 and 32, and the same word.
func TestExactByAllLengths(t *testing.T) {
	numbers := []int{-32768, -32767, -256, -181, -16, -2, -1, 0, 1, 2, 3, 7, 14, 15, 16, 17, 181, 182, 255, 16384, 32766, 32767}
	held := 0
	for op := api.Mul; op <= api.Not; op++ {
		for _, a := range numbers {
			for _, b := range numbers {
				exact, err := word.Exact(op, a, b, 16)
				if err != api.OK || !exact {
					continue
				}
				held++
				for _, bits := range []int{24, 32} {
					wider, err := word.Exact(op, a, b, bits)
					if !wider || err != api.OK || apply(t, op, a, b, bits) != apply(t, op, a, b, 16) {
						t.Errorf("operator %d with %d and %d is exact by 16 bits, not alike by %d", op, a, b, bits)
					}
				}
			}
		}
	}
	if held < 1000 {
		t.Errorf("only %d cases were exact", held)
	}
}
