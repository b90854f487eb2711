package lex_test

import (
	"math"
	"math/rand"
	"slices"
	"strings"
	"testing"

	"bluebell/api"
	"bluebell/lex"
)

// P2.2: the lists of the chapter; each call's list is its own.
func TestKeysAndSigns(t *testing.T) {
	keys := strings.Fields("and be break by case default do else endcase eqv false finish for global goto if into let loop manifest of or rem repeat repeatuntil repeatwhile resultis return section slct static switchon table test then to true unless until valof vec while xor")
	signs := strings.Fields("( ) { } , ; : ! % @ + - * / & | ~ ? = ~= < <= > >= << >> := ->")
	for range 2 {
		for _, x := range []struct{ got, want []string }{{lex.Keys(), keys}, {lex.Signs(), signs}} {
			if !slices.Equal(x.got, x.want) {
				t.Errorf("%q; want %q", x.got, x.want)
			}
			clear(x.got)
		}
	}
	wantTokens(t, "if <<", key("if"), sign("<<"))
	if lex.IsName("if") {
		t.Error("if is a name")
	}
}

// P2.2
func TestIsName(t *testing.T) {
	for _, s := range []string{"a", "z", "abc", "a1", "a_", "a_b_9", "ifs", "an", "i", times("a", 24), "start"} {
		if !lex.IsName(s) {
			t.Errorf("%q is no name", s)
		}
	}
	for _, s := range append(lex.Keys(), "", " ", "A", "aA", "Ab", "_", "_a", "1", "1a", "a b", " a", "a ", "a-b", "a\n", "a\x00", "\xe4", "a\xe4", "a'", "#a", times("a", 25), times("a", 1000), "a:", "ä") {
		if lex.IsName(s) {
			t.Errorf("%q is a name", s)
		}
	}
	for c := range 256 {
		first := c >= 'a' && c <= 'z'
		further := first || c >= '0' && c <= '9' || c == '_'
		b := string([]byte{byte(c)})
		if lex.IsName(b) != first || lex.IsName("q"+b) != further || lex.IsName("q"+b+"q") != further {
			t.Errorf("IsName with the byte %d", c)
		}
	}
}

// P2.3
func TestQuote(t *testing.T) {
	for s, want := range map[string]string{
		"": "\"\"", "a": "\"a\"", " ": "\" \"", "'": "\"'\"", "\n": "\"*n\"", "\t": "\"*t\"", "*": "\"**\"", "\"": "\"*\"\"", "a*\"\n\t'": "\"a***\"*n*t'\"", "*n": "\"**n\"", "// ~": "\"// ~\"",
		times("*", 100): "\"" + times("**", 100) + "\"", times("x", 100): "\"" + times("x", 100) + "\"",
	} {
		if got, err := lex.Quote(s); got != want || err != api.OK {
			t.Errorf("Quote(%q) = %q, %d; want %q", s, got, err, want)
		}
	}
	for s, want := range map[string]api.Errno{
		times("x", 101): api.ErrLimit, times("\n", 101): api.ErrLimit, times("x", 5000): api.ErrLimit,
		times("x", 101) + "\x01": api.ErrForm, "\x00" + times("x", 101): api.ErrForm, "a\x7f": api.ErrForm, "\r": api.ErrForm, "ä": api.ErrForm,
	} {
		if got, err := lex.Quote(s); got != "" || err != want {
			t.Errorf("Quote(%.20q..) = %q, %d; want error %d", s, got, err, want)
		}
	}
}

// P2.3, P2.6: each byte is quoted and scanned, or refused.
func TestQuoteOfBytes(t *testing.T) {
	for c := range 256 {
		s := "x" + string([]byte{byte(c)}) + "n"
		got, err := lex.Quote(s)
		if c >= 32 && c <= 126 || c == 9 || c == 10 {
			if err != api.OK {
				t.Errorf("Quote(%q): %d", s, err)
			}
			wantTokens(t, got, text(s))
		} else if got != "" || err != api.ErrForm {
			t.Errorf("Quote(%q) = %q, %d", s, got, err)
		}
	}
}

// P2.3, P2.6: numbers, written and scanned.
func TestNumber(t *testing.T) {
	for n, want := range map[int]string{0: "0", 7: "7", 10: "10", 2147483647: "2147483647", -1: "#ffffffff", -2: "#fffffffe", -255: "#ffffff01", -1 << 31: "#80000000", -1<<31 + 10: "#8000000a"} {
		if got, err := lex.Number(n); got != want || err != api.OK {
			t.Errorf("Number(%d) = %q, %d; want %q", n, got, err, want)
		}
		wantTokens(t, want, number(n))
	}
	for _, n := range []int{1 << 31, -1<<31 - 1, 1 << 32, 1<<32 + 1, -1 << 32, math.MaxInt, math.MinInt} {
		if got, err := lex.Number(n); got != "" || err != api.ErrRange {
			t.Errorf("Number(%d) = %q, %d", n, got, err)
		}
	}
	r := rand.New(rand.NewSource(3))
	for range 2000 {
		n := int(int32(r.Uint32()))
		s, err := lex.Number(n)
		if err != api.OK {
			t.Errorf("Number(%d): %d", n, err)
		}
		wantTokens(t, s, number(n))
	}
}

// P2.4: each place of a source, told by going through it byte by byte.
func TestLine(t *testing.T) {
	for _, src := range []string{"", "a", "\n", "ab\ncd", "ab\n", "\n\n", "\na\n\nbc\n", "\r\n\t\xff\nx"} {
		line, column := 1, 0
		for place := range len(src) + 1 {
			if l, c, err := lex.Line(src, place); l != line || c != column || err != api.OK {
				t.Errorf("Line(%q, %d) = %d, %d, %d; want %d, %d", src, place, l, c, err, line, column)
			}
			column++
			if place < len(src) && src[place] == '\n' {
				line, column = line+1, 0
			}
		}
		for _, place := range []int{-1, len(src) + 1, math.MinInt, math.MaxInt} {
			if l, c, err := lex.Line(src, place); l != 0 || c != 0 || err != api.ErrRange {
				t.Errorf("Line(%q, %d) = %d, %d, %d", src, place, l, c, err)
			}
		}
	}
	if l, c, err := lex.Line(times("ab\n", api.MaxSource), 3*api.MaxSource); l != api.MaxSource+1 || c != 0 || err != api.OK { // sources that Scan refuses have lines, too
		t.Errorf("Line of a long source: %d, %d, %d", l, c, err)
	}
}

// P2.5
func TestText(t *testing.T) {
	for _, x := range []struct {
		l    []api.Token
		want string
	}{
		{nil, ""}, {[]api.Token{}, ""}, {[]api.Token{end()}, ""}, {[]api.Token{name("a")}, "a"}, {[]api.Token{name("a"), end()}, "a"},
		{[]api.Token{name("a"), sign(":="), number(-1), key("rem"), text("x*\n"), sign("<"), sign("<")}, "a := #ffffffff rem \"x***n\" < <"},
		{[]api.Token{name("a"), end(), name("b"), {Kind: 77}, name("if")}, "a"}, {[]api.Token{end(), {Kind: -1}}, ""},
		{[]api.Token{{Kind: api.TName, S: "a", At: -5}, {Kind: api.TNumber, N: 97, At: math.MaxInt}, {Kind: api.TEnd, At: math.MinInt}}, "a 97"},
		{[]api.Token{text(""), number(0)}, "\"\" 0"}, {[]api.Token{sign("/"), sign("/")}, "/ /"}, {append(make([]api.Token, 0, 4), name("a")), "a"},
	} {
		old := slices.Clone(x.l)
		if got, err := lex.Text(x.l); got != x.want || err != api.OK {
			t.Errorf("Text(%v) = %q, %d; want %q", x.l, got, err, x.want)
		}
		if !slices.Equal(x.l, old) {
			t.Errorf("Text changed %v", old)
		}
	}
	many := slices.Repeat([]api.Token{sign(";")}, 3*api.MaxTokens) // more than a source may have
	if got, err := lex.Text(many); len(got) != 2*len(many)-1 || err != api.OK {
		t.Errorf("Text of %d tokens: %d bytes, %d", len(many), len(got), err)
	}
}

// P2.5: tokens that Scan never makes.
func TestTokensThatScanNeverMakes(t *testing.T) {
	for _, token := range []api.Token{
		{Kind: -1}, {Kind: 6}, {Kind: 77}, {Kind: math.MaxInt, S: "a"},
		name(""), name("if"), name("A"), name("a b"), name("1"), name("+"), name(times("a", 25)), {Kind: api.TName, S: "a", N: 1},
		key(""), key("a"), key("If"), key("+"), {Kind: api.TKey, S: "if", N: -1},
		sign(""), sign("//"), sign("a"), sign("if"), sign("=="), sign("( )"), sign("#"), sign("["), {Kind: api.TSign, S: "+", N: 3},
		number(1 << 31), number(-1<<31 - 1), number(math.MinInt), {Kind: api.TNumber, S: "1", N: 1}, {Kind: api.TNumber, S: "x"},
		text("\x00"), text("\x7f"), text("\r"), text("ä"), text(times("a", 101)), {Kind: api.TString, S: "a", N: 1}, {Kind: api.TString, N: 1},
		{Kind: api.TEnd, S: "a"}, {Kind: api.TEnd, N: 1},
	} {
		for _, l := range [][]api.Token{{token}, {token, end()}, {name("a"), token}, {token, name("a")}} {
			if got, err := lex.Text(l); got != "" || err != api.ErrForm {
				t.Errorf("Text(%v) = %q, %d", l, got, err)
			}
		}
	}
}

// P2.6: Scan of Text is the same tokens, but for their places, and Text of that the same text.
func TestTokensComeBack(t *testing.T) {
	r := rand.New(rand.NewSource(5))
	for range 20000 {
		src := randomSource(r)
		tokens, err, _ := lex.Scan(src)
		if err != api.OK {
			continue
		}
		written, err := lex.Text(tokens)
		if err != api.OK {
			t.Fatalf("Text of Scan(%q): %d", src, err)
		}
		back := mustScan(t, written)
		if !slices.Equal(placeless(back), placeless(tokens)) {
			t.Fatalf("%q: Scan(%q) = %v; want %v", src, written, back, tokens)
		}
		if again, err := lex.Text(back); again != written || err != api.OK {
			t.Fatalf("Text again: %q, %d; want %q", again, err, written)
		}
	}
}
