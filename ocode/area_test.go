package ocode_test

import (
	"math"
	"slices"
	"strings"
	"testing"

	"bluebell/api"
	"bluebell/ocode"
	"bluebell/word"
)

// forms are all that are valid.
var forms = []api.Form{{Bits: 16, Big: true}, {Bits: 16}, {Bits: 24, Big: true}, {Bits: 24}, {Bits: 32, Big: true}, {Bits: 32}}

var badForms = []api.Form{{}, {Big: true}, {Bits: 8}, {Bits: -16}, {Bits: 17}, {Bits: 48}, {Bits: 64, Big: true}, {Bits: math.MaxInt}}

// P6.5: texts are packed, words normed; what an area has beside is not looked at.
func TestWords(t *testing.T) {
	for _, x := range []struct {
		d    api.Data
		f    api.Form
		want []int
	}{
		{api.Data{Text: "AB", IsText: true}, forms[0], []int{0x0241, 0x4200}}, {api.Data{Text: "AB", IsText: true}, forms[1], []int{0x4102, 0x0042}}, {api.Data{Text: "AB", IsText: true}, forms[2], []int{0x024142}}, {api.Data{Text: "AB", IsText: true}, forms[5], []int{0x00424102}},
		{api.Data{IsText: true}, forms[0], []int{0}}, {api.Data{IsText: true, Text: "\x00\xff"}, forms[0], []int{0x0200, -256}}, {api.Data{Text: "A", IsText: true, Words: []int{7}}, forms[0], []int{0x0141}},
		{api.Data{Words: []int{65535, 32768, -32769, 5}}, forms[1], []int{-1, -32768, 32767, 5}}, {api.Data{Words: []int{65535, 1 << 23, -1 << 31}}, forms[2], []int{65535, -1 << 23, 0}}, {api.Data{Words: []int{-1 << 31, 1<<31 - 1, 1 << 31, math.MaxInt, math.MinInt}}, forms[4], []int{-1 << 31, 1<<31 - 1, -1 << 31, -1, 0}},
		{api.Data{}, forms[0], nil}, {api.Data{Text: "AB", Words: []int{65536}}, forms[0], []int{0}},
	} {
		if l, err := ocode.Words(x.d, x.f); !slices.Equal(l, x.want) || err != api.OK {
			t.Errorf("Words(%v, %v) = %v, error %d; want %v", x.d, x.f, l, err, x.want)
		}
	}
	for _, f := range forms {
		for n := range 257 {
			text := strings.Repeat("x", n)
			want, wantErr := word.Pack(text, f)
			if l, err := ocode.Words(api.Data{Text: text, IsText: true}, f); !slices.Equal(l, want) || err != wantErr || (n == 256) != (err == api.ErrLimit) {
				t.Errorf("Words of %d bytes, %v: %v, error %d", n, f, l, err)
			}
		}
	}
}

// P6.5, R4: forms that are none come first, and the argument's words stay its own.
func TestWordsOfNoForm(t *testing.T) {
	for _, f := range badForms {
		for _, d := range []api.Data{{}, {IsText: true}, {IsText: true, Text: strings.Repeat("x", 256)}, {Words: []int{1}}} {
			if l, err := ocode.Words(d, f); len(l) != 0 || err != api.ErrForm {
				t.Errorf("Words(%.40v, %v) = %v, error %d", d, f, l, err)
			}
		}
	}
	d := api.Data{Words: []int{65537, 5}}
	l, _ := ocode.Words(d, forms[0])
	l[1] = 9
	if !slices.Equal(d.Words, []int{65537, 5}) {
		t.Errorf("the argument is %v", d.Words)
	}
}

// P6.5
func TestLayout(t *testing.T) {
	words := func(n int) api.Data { return api.Data{Words: make([]int, n)} }
	text := func(n int) api.Data { return api.Data{Text: strings.Repeat("x", n), IsText: true} }
	for _, x := range []struct {
		areas []api.Data
		bits  int
		want  []int
		end   int
	}{
		{nil, 16, nil, 200}, {[]api.Data{words(1)}, 16, []int{200}, 201}, {[]api.Data{words(3), words(1), words(2)}, 32, []int{200, 203, 204}, 206},
		{[]api.Data{text(0), text(1), text(2), text(3), text(4)}, 16, []int{200, 201, 202, 204, 206}, 209}, {[]api.Data{text(0), text(2), text(3), text(5), text(6)}, 24, []int{200, 201, 202, 204, 206}, 209}, {[]api.Data{text(0), text(3), text(4), text(7), text(8)}, 32, []int{200, 201, 202, 204, 206}, 209},
		{[]api.Data{words(7799), words(1)}, 16, []int{200, 7999}, 8000}, {[]api.Data{text(100), words(7749)}, 16, []int{200, 251}, 8000}, {[]api.Data{text(100), words(7749)}, 24, []int{200, 234}, 7983}, {[]api.Data{text(100), words(7749)}, 32, []int{200, 226}, 7975},
	} {
		for _, big := range []bool{true, false} {
			if l, end, err := ocode.Layout(api.Code{Data: x.areas}, api.Form{Bits: x.bits, Big: big}); !slices.Equal(l, x.want) || end != x.end || err != api.OK {
				t.Errorf("Layout(%.60v, %d) = %v, %d, error %d; want %v, %d", x.areas, x.bits, l, end, err, x.want, x.end)
			}
		}
	}
	for _, f := range badForms {
		for c, want := range map[*api.Code]api.Errno{{}: api.ErrForm, {Data: []api.Data{words(1)}}: api.ErrForm, {Data: []api.Data{{}}}: api.ErrCode, {Data: []api.Data{words(7801)}}: api.ErrLimit} {
			if l, end, err := ocode.Layout(*c, f); len(l) != 0 || end != 0 || err != want {
				t.Errorf("Layout(%.60v, %v) = %v, %d, error %d; want error %d", *c, f, l, end, err, want)
			}
		}
	}
	if _, _, err := ocode.Layout(api.Code{Data: []api.Data{words(7801)}}, forms[0]); err != api.ErrLimit {
		t.Errorf("Layout of too many words: %d", err)
	}
}

// P6.5: areas lie one behind the other, each as long as its words.
func TestLayoutOfAreas(t *testing.T) {
	overCodes(40000, 300, func(m *maker, c api.Code) {
		f := pick(m, forms...)
		l, end, err := ocode.Layout(c, f)
		if err != api.OK || len(l) != len(c.Data) {
			t.Fatalf("Layout(%v, %v) = %v, error %d", c, f, l, err)
		}
		for i, at := range append(l, end) {
			want := 200
			for _, d := range c.Data[:i] {
				words, _ := ocode.Words(d, f)
				want += len(words)
			}
			if at != want {
				t.Fatalf("Layout(%v, %v) = %v, %d; want %d at %d", c, f, l, end, want, i)
			}
		}
	})
}
