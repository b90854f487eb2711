package word_test

import (
	"math"
	"math/big"
	"testing"

	"bluebell/api"
	"bluebell/word"
)

var lengths = []int{16, 24, 32}

var badLengths = []int{math.MinInt, -32, -16, -1, 0, 1, 8, 15, 17, 23, 25, 31, 33, 40, 48, 64, math.MaxInt}

// samples are numbers at the edges of words and shifts, within words and beyond them.
func samples() []int {
	list := []int{math.MinInt, math.MinInt + 1, math.MaxInt, 0x5a5a5a5a5a5a5a5a, -0x123456789abcdef, 12345, -23456, 181, 182, -181, 40000, -40000, 3<<30 + 7, 1<<48 + 3}
	for v := -3; v <= 3; v++ {
		for _, near := range []int{0, 7, 16, 24, 32, 1 << 8, 1 << 15, -1 << 15, 1 << 16, -1 << 16, 1 << 23, -1 << 23, 1 << 24, 1 << 31, -1 << 31, 1 << 32} {
			list = append(list, near+v)
		}
	}
	return append(list, 14, 15, 13, 1<<16+1, 1<<24+15, 1<<32+31)
}

// modulo is the number from 0 to 2^bits - 1 that differs from v by a multiple of 2^bits.
func modulo(v *big.Int, bits int) *big.Int {
	return new(big.Int).Mod(v, new(big.Int).Lsh(big.NewInt(1), uint(bits)))
}

// normed is the word that differs from v by a multiple of 2^bits.
func normed(v *big.Int, bits int) *big.Int {
	m := modulo(v, bits)
	if m.Bit(bits-1) == 1 {
		m.Sub(m, new(big.Int).Lsh(big.NewInt(1), uint(bits)))
	}
	return m
}

func normedInt(v, bits int) int {
	return int(normed(big.NewInt(int64(v)), bits).Int64())
}

// P1: a form is valid if its words have 16, 24 or 32 bits, in either order.
func TestValid(t *testing.T) {
	for _, bigEnd := range []bool{false, true} {
		for _, bits := range lengths {
			if !word.Valid(api.Form{Bits: bits, Big: bigEnd}) {
				t.Errorf("%d bits, Big %v: not valid", bits, bigEnd)
			}
		}
		for _, bits := range badLengths {
			if word.Valid(api.Form{Bits: bits, Big: bigEnd}) {
				t.Errorf("%d bits, Big %v: valid", bits, bigEnd)
			}
		}
	}
}

// P1.1
func TestNormAndUnsigned(t *testing.T) {
	for _, x := range []struct{ v, bits, word, unsigned int }{
		{0, 16, 0, 0}, {32767, 16, 32767, 32767}, {32768, 16, -32768, 32768}, {-32768, 16, -32768, 32768}, {-32769, 16, 32767, 32767},
		{65535, 16, -1, 65535}, {65536, 16, 0, 0}, {-65536, 16, 0, 0}, {-1, 24, -1, 1<<24 - 1}, {1 << 23, 24, -1 << 23, 1 << 23},
		{1<<31 - 1, 32, 1<<31 - 1, 1<<31 - 1}, {1 << 31, 32, -1 << 31, 1 << 31}, {math.MaxInt, 32, -1, 1<<32 - 1}, {math.MinInt, 32, 0, 0}, {math.MinInt + 5, 24, 5, 5},
	} {
		if got, err := word.Norm(x.v, x.bits); got != x.word || err != api.OK {
			t.Errorf("Norm(%d, %d) = %d, %d; want %d", x.v, x.bits, got, err, x.word)
		}
		if got, err := word.Unsigned(x.v, x.bits); got != x.unsigned || err != api.OK {
			t.Errorf("Unsigned(%d, %d) = %d, %d; want %d", x.v, x.bits, got, err, x.unsigned)
		}
	}
	for _, bits := range lengths {
		for _, v := range samples() {
			if got, err := word.Norm(v, bits); got != normedInt(v, bits) || err != api.OK {
				t.Errorf("Norm(%d, %d) = %d, %d", v, bits, got, err)
			}
			want := int(modulo(big.NewInt(int64(v)), bits).Int64())
			if got, err := word.Unsigned(v, bits); got != want || err != api.OK {
				t.Errorf("Unsigned(%d, %d) = %d, %d; want %d", v, bits, got, err, want)
			}
		}
	}
}

// P1.1, P1.3: lengths that are not valid.
func TestNumbersOfBadLengths(t *testing.T) {
	for _, bits := range badLengths {
		if got, err := word.Norm(7, bits); got != 0 || err != api.ErrForm {
			t.Errorf("Norm(7, %d) = %d, %d", bits, got, err)
		}
		if got, err := word.Unsigned(7, bits); got != 0 || err != api.ErrForm {
			t.Errorf("Unsigned(7, %d) = %d, %d", bits, got, err)
		}
		for _, c := range []int{1, 0} { // ErrForm comes before ErrZero
			if q, r, err := word.MulDiv(7, 7, c, bits); q != 0 || r != 0 || err != api.ErrForm {
				t.Errorf("MulDiv(7, 7, %d, %d) = %d, %d, %d", c, bits, q, r, err)
			}
		}
	}
}

// P1.3
func TestMulDiv(t *testing.T) {
	least := -1 << 31
	for _, x := range []struct{ a, b, c, bits, q, r int }{
		{30000, 30000, 7, 16, normedInt(128571428, 16), 4}, {-7, 1, 2, 16, -3, -1}, {7, -1, 2, 16, -3, -1}, {7, 1, -2, 16, -3, 1}, {-7, -1, -2, 16, -3, 1},
		{-32768, 1, -1, 16, -32768, 0}, {-32768, -32768, -32768, 16, -32768, 0}, {65537, 65538, 3, 16, 0, 2},
		{least, least, 1, 32, 0, 0}, {least, least, -1, 32, 0, 0}, {least, least, least, 32, least, 0}, {1<<31 - 1, 1<<31 - 1, 1 << 30, 32, -4, 1},
		{1<<23 - 1, 1<<23 - 1, 10, 24, normedInt(7036872740044, 24), 9},
	} {
		if q, r, err := word.MulDiv(x.a, x.b, x.c, x.bits); q != x.q || r != x.r || err != api.OK {
			t.Errorf("MulDiv(%d, %d, %d, %d) = %d, %d, %d; want %d, %d", x.a, x.b, x.c, x.bits, q, r, err, x.q, x.r)
		}
	}
	for _, c := range []int{0, 1 << 32, -1 << 32, math.MinInt} { // all normed to 0
		if q, r, err := word.MulDiv(6, 7, c, 32); q != 0 || r != 0 || err != api.ErrZero {
			t.Errorf("MulDiv(6, 7, %d, 32) = %d, %d, %d", c, q, r, err)
		}
	}
}

// P1.3: held against whole numbers of any size.
func TestMulDivIsExact(t *testing.T) {
	list := samples()
	for _, bits := range lengths {
		for i, a := range list {
			b, third := list[(i*7+3)%len(list)], list[(i*11+5)%len(list)]
			for _, c := range []int{third, a, b, 1, -1, 3} {
				if normedInt(c, bits) == 0 {
					continue
				}
				product := new(big.Int).Mul(big.NewInt(int64(normedInt(a, bits))), big.NewInt(int64(normedInt(b, bits))))
				quotient, rest := new(big.Int).QuoRem(product, big.NewInt(int64(normedInt(c, bits))), new(big.Int))
				wantQ, wantR := int(normed(quotient, bits).Int64()), int(normed(rest, bits).Int64())
				if q, r, err := word.MulDiv(a, b, c, bits); q != wantQ || r != wantR || err != api.OK {
					t.Errorf("MulDiv(%d, %d, %d, %d) = %d, %d, %d; want %d, %d", a, b, c, bits, q, r, err, wantQ, wantR)
				}
			}
		}
	}
}
