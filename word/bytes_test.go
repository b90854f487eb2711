package word_test

import (
	"math"
	"slices"
	"strings"
	"testing"

	"bluebell/api"
	"bluebell/word"
)

func forms() []api.Form {
	var list []api.Form
	for _, bits := range lengths {
		list = append(list, api.Form{Bits: bits}, api.Form{Bits: bits, Big: true})
	}
	return list
}

func badForms() []api.Form {
	var list []api.Form
	for _, bits := range badLengths {
		list = append(list, api.Form{Bits: bits}, api.Form{Bits: bits, Big: true})
	}
	return list
}

// sampleWords are words with different bytes, positive and negative.
func sampleWords(f api.Form) []int {
	return []int{normedInt(0x01234567, f.Bits), normedInt(0x89abcdef, f.Bits), 0, -1, -1 << (f.Bits - 1), 1<<(f.Bits-1) - 1, 1, normedInt(0x7f80fe02, f.Bits)}
}

// sampleText has n bytes, among them 0, 255 and bytes that are no characters.
func sampleText(n int) string {
	b := make([]byte, n)
	for i := range b {
		b[i] = byte(i*37 + n)
	}
	return string(b)
}

// P1.4: the order of bytes in both forms, and where the bytes end.
func TestGetByte(t *testing.T) {
	for _, x := range []struct {
		words []int
		i     int
		f     api.Form
		want  int
	}{
		{[]int{0x0102, 0x0304}, 0, api.Form{Bits: 16, Big: true}, 1}, {[]int{0x0102, 0x0304}, 3, api.Form{Bits: 16, Big: true}, 4},
		{[]int{0x0102, 0x0304}, 0, api.Form{Bits: 16}, 2}, {[]int{0x0102, 0x0304}, 3, api.Form{Bits: 16}, 3},
		{[]int{0x010203, 0x040506}, 2, api.Form{Bits: 24, Big: true}, 3}, {[]int{0x010203, 0x040506}, 3, api.Form{Bits: 24}, 6},
		{[]int{0x01020304}, 0, api.Form{Bits: 32, Big: true}, 1}, {[]int{0x01020304}, 0, api.Form{Bits: 32}, 4},
		{[]int{-1}, 0, api.Form{Bits: 16, Big: true}, 255}, {[]int{-32768}, 0, api.Form{Bits: 16, Big: true}, 128},
		{[]int{0x7f0102}, 0, api.Form{Bits: 16, Big: true}, 1}, {[]int{math.MinInt + 0xfe}, 0, api.Form{Bits: 32}, 0xfe}, // not normed
	} {
		if got, err := word.GetByte(x.words, x.i, x.f); got != x.want || err != api.OK {
			t.Errorf("GetByte(%x, %d, %v) = %d, %d; want %d", x.words, x.i, x.f, got, err, x.want)
		}
	}
}

// P1.4: the new list is normed throughout, and the old one is as it was.
func TestPutByte(t *testing.T) {
	for _, x := range []struct {
		words []int
		i, v  int
		f     api.Form
		want  []int
	}{
		{[]int{0, 0}, 0, 0x1ff, api.Form{Bits: 16, Big: true}, []int{-256, 0}}, {[]int{0, 0}, 0, 0x1ff, api.Form{Bits: 16}, []int{255, 0}},
		{[]int{0x0102, 0x0304}, 3, 0, api.Form{Bits: 16, Big: true}, []int{0x0102, 0x0300}}, {[]int{-1, -1}, 2, 5, api.Form{Bits: 24, Big: true}, []int{-251, -1}},
		{[]int{0}, 2, 128, api.Form{Bits: 24}, []int{-1 << 23}}, {[]int{0}, 3, -1, api.Form{Bits: 32}, []int{-1 << 24}}, {[]int{-1}, 0, math.MinInt, api.Form{Bits: 32, Big: true}, []int{1<<24 - 1}},
		{[]int{65537, 98304, -65537}, 2, 1, api.Form{Bits: 16, Big: true}, []int{1, 256, -1}}, // not normed
	} {
		old := slices.Clone(x.words)
		got, err := word.PutByte(x.words, x.i, x.v, x.f)
		if !slices.Equal(got, x.want) || err != api.OK {
			t.Errorf("PutByte(%x, %d, %d, %v) = %x, %d; want %x", x.words, x.i, x.v, x.f, got, err, x.want)
		}
		if !slices.Equal(x.words, old) {
			t.Errorf("PutByte(%x, %d, %d, %v) changed its argument", old, x.i, x.v, x.f)
		}
		if len(got) > 0 && &got[0] == &x.words[0] {
			t.Errorf("PutByte(%x, %d, %d, %v) shares memory with its argument", old, x.i, x.v, x.f)
		}
	}
}

// P1.4: bytes beyond the words, and ErrForm before ErrRange.
func TestByteErrors(t *testing.T) {
	check := func(words []int, i int, f api.Form, want api.Errno) {
		t.Helper()
		if got, err := word.GetByte(words, i, f); got != 0 || err != want {
			t.Errorf("GetByte(%v, %d, %v) = %d, %d; want error %d", words, i, f, got, err, want)
		}
		if got, err := word.PutByte(words, i, 1, f); len(got) != 0 || err != want {
			t.Errorf("PutByte(%v, %d, 1, %v) = %v, %d; want error %d", words, i, f, got, err, want)
		}
	}
	for _, f := range forms() {
		n := f.Bits / 8
		for _, i := range []int{math.MinInt, -n, -1, 2 * n, 2*n + 1, math.MaxInt} {
			check([]int{-1, -1}, i, f, api.ErrRange)
		}
		check(nil, 0, f, api.ErrRange)
		check(nil, -1, f, api.ErrRange)
		check(make([]int, 1, 4), n, f, api.ErrRange) // a list is read up to its length
	}
	for _, f := range badForms() {
		check([]int{1, 2}, 0, f, api.ErrForm)
		check([]int{1, 2}, -1, f, api.ErrForm)
		check(nil, 0, f, api.ErrForm)
	}
}

// P1.5
func TestPack(t *testing.T) {
	for _, x := range []struct {
		s    string
		f    api.Form
		want []int
	}{
		{"AB", api.Form{Bits: 16, Big: true}, []int{0x0241, 0x4200}}, {"AB", api.Form{Bits: 16}, []int{0x4102, 0x0042}},
		{"", api.Form{Bits: 16, Big: true}, []int{0}}, {"", api.Form{Bits: 24}, []int{0}}, {"", api.Form{Bits: 32}, []int{0}},
		{"A", api.Form{Bits: 16, Big: true}, []int{0x0141}}, {"AB", api.Form{Bits: 24, Big: true}, []int{0x024142}}, {"ABC", api.Form{Bits: 24}, []int{0x424103, 0x000043}},
		{"ABC", api.Form{Bits: 32, Big: true}, []int{0x03414243}}, {"ABCD", api.Form{Bits: 32, Big: true}, []int{0x04414243, 0x44000000}}, {"\xff\x80", api.Form{Bits: 16}, []int{-254, 128}}, {"\xff\x80", api.Form{Bits: 16, Big: true}, []int{0x02ff, -32768}},
	} {
		if got, err := word.Pack(x.s, x.f); !slices.Equal(got, x.want) || err != api.OK {
			t.Errorf("Pack(%q, %v) = %x, %d; want %x", x.s, x.f, got, err, x.want)
		}
	}
	for _, f := range forms() {
		n := f.Bits / 8
		if got, err := word.Pack(strings.Repeat("x", 255), f); len(got) != (256+n-1)/n || err != api.OK {
			t.Errorf("Pack of 255 bytes, %v: %d words, %d", f, len(got), err)
		}
		if got, err := word.Pack(strings.Repeat("x", 256), f); len(got) != 0 || err != api.ErrLimit {
			t.Errorf("Pack of 256 bytes, %v: %d words, %d", f, len(got), err)
		}
	}
	for _, f := range badForms() {
		for _, s := range []string{"", "AB", strings.Repeat("x", 256)} { // ErrForm comes before ErrLimit
			if got, err := word.Pack(s, f); len(got) != 0 || err != api.ErrForm {
				t.Errorf("Pack of %d bytes, %v: %v, %d", len(s), f, got, err)
			}
		}
	}
}

// P1.5: words that do not reach for the length, and more of them than it needs.
func TestUnpack(t *testing.T) {
	big, little := api.Form{Bits: 16, Big: true}, api.Form{Bits: 16}
	for _, x := range []struct {
		words []int
		f     api.Form
		want  string
		err   api.Errno
	}{
		{[]int{0x0241, 0x4200}, big, "AB", api.OK}, {[]int{0x0241, 0x4243, 7, -1}, big, "AB", api.OK}, {[]int{0x0041, 0x4200}, big, "", api.OK}, {[]int{0}, little, "", api.OK},
		{[]int{0x4102, 0x0042}, little, "AB", api.OK}, {[]int{0x0141}, big, "A", api.OK}, {[]int{0x0241}, big, "", api.ErrEnd}, {[]int{0x0341, 0x4243}, big, "ABC", api.OK}, {[]int{0x0441, 0x4243}, big, "", api.ErrEnd},
		{[]int{0x10241, 0x7f4200}, big, "AB", api.OK}, {[]int{-1}, little, "", api.ErrEnd}, {nil, big, "", api.ErrEnd}, {[]int{}, little, "", api.ErrEnd},
		{[]int{0x024142}, api.Form{Bits: 24, Big: true}, "AB", api.OK}, {[]int{0x034142}, api.Form{Bits: 24, Big: true}, "", api.ErrEnd}, {[]int{0x03414243}, api.Form{Bits: 32, Big: true}, "ABC", api.OK}, {[]int{0x04414243}, api.Form{Bits: 32, Big: true}, "", api.ErrEnd},
		{make([]int, 1, 9), big, "", api.OK}, {append(make([]int, 0, 9), 0x0241), big, "", api.ErrEnd},
	} {
		if got, err := word.Unpack(x.words, x.f); got != x.want || err != x.err {
			t.Errorf("Unpack(%x, %v) = %q, %d; want %q, %d", x.words, x.f, got, err, x.want, x.err)
		}
	}
	for _, f := range badForms() {
		for _, words := range [][]int{nil, {0x0241, 0x4200}} { // ErrForm comes before ErrEnd
			if got, err := word.Unpack(words, f); got != "" || err != api.ErrForm {
				t.Errorf("Unpack(%x, %v) = %q, %d", words, f, got, err)
			}
		}
	}
}

// P1.6
func TestBytesAndWords(t *testing.T) {
	for _, x := range []struct {
		words []int
		f     api.Form
		want  []byte
	}{
		{[]int{0x0102, -2}, api.Form{Bits: 16, Big: true}, []byte{1, 2, 255, 254}}, {[]int{0x0102, -2}, api.Form{Bits: 16}, []byte{2, 1, 254, 255}},
		{[]int{0x010203, -1 << 23}, api.Form{Bits: 24, Big: true}, []byte{1, 2, 3, 128, 0, 0}}, {[]int{0x010203, -1 << 23}, api.Form{Bits: 24}, []byte{3, 2, 1, 0, 0, 128}},
		{[]int{0x01020304}, api.Form{Bits: 32, Big: true}, []byte{1, 2, 3, 4}}, {[]int{0x01020304}, api.Form{Bits: 32}, []byte{4, 3, 2, 1}}, {nil, api.Form{Bits: 24}, nil},
	} {
		if got, err := word.Bytes(x.words, x.f); !slices.Equal(got, x.want) || err != api.OK {
			t.Errorf("Bytes(%x, %v) = %v, %d; want %v", x.words, x.f, got, err, x.want)
		}
		if got, err := word.Words(x.want, x.f); !slices.Equal(got, x.words) || err != api.OK {
			t.Errorf("Words(%v, %v) = %x, %d; want %x", x.want, x.f, got, err, x.words)
		}
	}
	if got, err := word.Bytes([]int{65537, -98304}, api.Form{Bits: 16}); !slices.Equal(got, []byte{1, 0, 0, 128}) || err != api.OK {
		t.Errorf("Bytes of numbers that are not normed: %v, %d", got, err)
	}
}

// P1.6: forms that are not valid, and bytes that are no whole words.
func TestBytesAndWordsErrors(t *testing.T) {
	for _, f := range forms() {
		for n := range 3 * f.Bits / 8 {
			if got, err := word.Words(make([]byte, n), f); n%(f.Bits/8) != 0 && (len(got) != 0 || err != api.ErrForm) {
				t.Errorf("Words of %d bytes, %v: %v, %d", n, f, got, err)
			}
		}
	}
	for _, f := range badForms() {
		for n := range 4 {
			if got, err := word.Bytes(make([]int, n), f); len(got) != 0 || err != api.ErrForm {
				t.Errorf("Bytes of %d words, %v: %v, %d", n, f, got, err)
			}
			if got, err := word.Words(make([]byte, n), f); len(got) != 0 || err != api.ErrForm {
				t.Errorf("Words of %d bytes, %v: %v, %d", n, f, got, err)
			}
		}
	}
}

// P1.8: Unpack of Pack is the string, with more words behind it or not.
func TestStringsComeBack(t *testing.T) {
	for _, f := range forms() {
		for n := range 256 {
			s := sampleText(n)
			words, err := word.Pack(s, f)
			if err != api.OK {
				t.Fatalf("Pack of %d bytes, %v: %d", n, f, err)
			}
			for i, w := range words {
				if w != normedInt(w, f.Bits) {
					t.Errorf("Pack of %d bytes, %v: word %d is not normed: %d", n, f, i, w)
				}
			}
			for _, list := range [][]int{words, append(slices.Clone(words), -1, 3)} {
				if got, err := word.Unpack(list, f); got != s || err != api.OK {
					t.Errorf("%d bytes, %v: back as %q, %d", n, f, got, err)
				}
			}
			if _, err := word.Unpack(words[:len(words)-1], f); err != api.ErrEnd {
				t.Errorf("%d bytes, %v, a word too few: %d", n, f, err)
			}
		}
	}
}

// P1.8: Words of Bytes are the words, and arguments stay as they were.
func TestWordsComeBack(t *testing.T) {
	for _, f := range forms() {
		words := sampleWords(f)
		b, err := word.Bytes(words, f)
		if len(b) != len(words)*f.Bits/8 || err != api.OK {
			t.Errorf("Bytes, %v: %d bytes, %d", f, len(b), err)
		}
		old := slices.Clone(b)
		got, err := word.Words(b, f)
		if !slices.Equal(got, words) || err != api.OK {
			t.Errorf("Words of Bytes, %v: %v, %d; want %v", f, got, err, words)
		}
		if !slices.Equal(words, sampleWords(f)) || !slices.Equal(b, old) {
			t.Errorf("%v: an argument was changed", f)
		}
		for i := range b {
			if v, err := word.GetByte(words, i, f); v != int(b[i]) || err != api.OK {
				t.Errorf("byte %d, %v: GetByte %d, %d; Bytes %d", i, f, v, err, b[i])
			}
		}
	}
}

// P1.8: a byte that was put is got, and no other one changes.
func TestPutBytesAreGot(t *testing.T) {
	for _, f := range forms() {
		words := sampleWords(f)
		before, _ := word.Bytes(words, f)
		for i := range before {
			for _, v := range []int{0, 1, 127, 128, 255, 256, -1, 0x1234} {
				changed, err := word.PutByte(words, i, v, f)
				if err != api.OK {
					t.Fatalf("PutByte %d, %v: %d", i, f, err)
				}
				if got, err := word.GetByte(changed, i, f); got != v&255 || err != api.OK {
					t.Errorf("byte %d, %v: put %d, got %d, %d", i, f, v, got, err)
				}
				want := slices.Clone(before)
				want[i] = byte(v)
				if after, _ := word.Bytes(changed, f); !slices.Equal(after, want) {
					t.Errorf("byte %d, %v, put %d: bytes %v; want %v", i, f, v, after, want)
				}
			}
		}
	}
}
