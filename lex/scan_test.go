package lex_test

import (
	"math/rand"
	"regexp"
	"slices"
	"strconv"
	"strings"
	"testing"

	"bluebell/api"
	"bluebell/lex"
)

func name(s string) api.Token      { return api.Token{Kind: api.TName, S: s} }
func key(s string) api.Token       { return api.Token{Kind: api.TKey, S: s} }
func sign(s string) api.Token      { return api.Token{Kind: api.TSign, S: s} }
func text(s string) api.Token      { return api.Token{Kind: api.TString, S: s} }
func number(n int) api.Token       { return api.Token{Kind: api.TNumber, N: n} }
func end() api.Token               { return api.Token{Kind: api.TEnd} }
func times(s string, n int) string { return strings.Repeat(s, n) }

// placeless returns tokens without their places.
func placeless(l []api.Token) []api.Token {
	var list []api.Token
	for _, t := range l {
		t.At = 0
		list = append(list, t)
	}
	return list
}

// mustScan returns the tokens of a source without error, and looks at their places.
func mustScan(t *testing.T, src string) []api.Token {
	t.Helper()
	l, err, place := lex.Scan(src)
	if err != api.OK || place != 0 || len(l) == 0 {
		t.Fatalf("Scan(%.60q): %d tokens, error %d at %d", src, len(l), err, place)
	}
	for i, token := range l {
		if token.At < 0 || i > 0 && token.At <= l[i-1].At {
			t.Errorf("Scan(%.60q): token %d is at %d", src, i, token.At)
		}
	}
	if last := l[len(l)-1]; last != (api.Token{Kind: api.TEnd, At: len(src)}) {
		t.Errorf("Scan(%.60q): the last token is %v", src, last)
	}
	return l
}

func wantTokens(t *testing.T, src string, want ...api.Token) {
	t.Helper()
	if got := placeless(mustScan(t, src)); !slices.Equal(got, append(want, end())) {
		t.Errorf("Scan(%.60q) = %v; want %v", src, got, want)
	}
}

func wantError(t *testing.T, src string, want api.Errno, place int) {
	t.Helper()
	if l, err, p := lex.Scan(src); len(l) != 0 || err != want || p != place {
		t.Errorf("Scan(%.60q): %d tokens, error %d at %d; want error %d at %d", src, len(l), err, p, want, place)
	}
}

// P2.1: tokens with their places.
func TestPlaces(t *testing.T) {
	got, err, place := lex.Scan(" x:=#ff//c\n\t'a'(\"b*n\")  valof ")
	want := []api.Token{{Kind: api.TName, S: "x", At: 1}, {Kind: api.TSign, S: ":=", At: 2}, {Kind: api.TNumber, N: 255, At: 4}, {Kind: api.TNumber, N: 97, At: 12}, {Kind: api.TSign, S: "(", At: 15}, {Kind: api.TString, S: "b\n", At: 16}, {Kind: api.TSign, S: ")", At: 21}, {Kind: api.TKey, S: "valof", At: 24}, {Kind: api.TEnd, At: 30}}
	if !slices.Equal(got, want) || err != api.OK || place != 0 {
		t.Errorf("Scan: %v, error %d at %d; want %v", got, err, place, want)
	}
}

// P2.1: what may stand between tokens.
func TestBlanksAndComments(t *testing.T) {
	for _, src := range []string{"", " ", "\t", "\n", " \t\n \n", "//", "// a", "// a\n", "//\n//\n", "//\x00\xff\r'\"#A//", "/// /", " //'\n\t"} {
		wantTokens(t, src)
	}
	wantTokens(t, "a//b\nc", name("a"), name("c"))
	wantTokens(t, "a / /b", name("a"), sign("/"), sign("/"), name("b"))
	wantTokens(t, "a*//b\n/c", name("a"), sign("*"), sign("/"), name("c"))
	wantTokens(t, "a// b // c\r\nd", name("a"), name("d"))
	wantTokens(t, "\"//\"'/'", text("//"), number('/'))
	wantError(t, "\ra", api.ErrByte, 0)
	wantError(t, "a\r\n", api.ErrByte, 1)
	wantError(t, "a // b\n\v", api.ErrByte, 7)
}

// P2.1: names and keys, as long as they can be.
func TestNamesAndKeys(t *testing.T) {
	for _, s := range []string{"a", "z", "a_", "a__1", "x0123456789", "ifs", "if1", "if_", "wh", "valofx", "xorxor", times("a", 24), "a" + times("_", 23), "a" + times("9", 23)} {
		wantTokens(t, s, name(s))
		wantTokens(t, "("+s+")", sign("("), name(s), sign(")"))
	}
	for _, s := range lex.Keys() {
		wantTokens(t, s, key(s))
		wantTokens(t, s+"="+s, key(s), sign("="), key(s))
		wantTokens(t, s+"x "+s+"_ "+s+"0", name(s+"x"), name(s+"_"), name(s+"0"))
	}
	wantTokens(t, "12ab", number(12), name("ab"))
	wantTokens(t, "0if", number(0), key("if"))
	wantTokens(t, "a#b", name("a"), number(11))
	wantError(t, times("a", 25), api.ErrLimit, 0)
	wantError(t, "1 a"+times("_", 24)+"A", api.ErrLimit, 2)
	wantError(t, "1 "+times("while", 5), api.ErrLimit, 2)
	wantError(t, "a_B", api.ErrByte, 2)
	wantError(t, "_a", api.ErrByte, 0)
}

// P2.1: the longest sign that fits.
func TestSigns(t *testing.T) {
	for _, a := range lex.Signs() {
		wantTokens(t, a, sign(a))
		for _, b := range lex.Signs() {
			if slices.Contains(lex.Signs(), a+b[:1]) || a == "/" && b == "/" {
				continue
			}
			wantTokens(t, a+b, sign(a), sign(b))
		}
	}
	wantTokens(t, "<<=", sign("<<"), sign("="))
	wantTokens(t, "<=<", sign("<="), sign("<"))
	wantTokens(t, "<<<", sign("<<"), sign("<"))
	wantTokens(t, ">>>=", sign(">>"), sign(">="))
	wantTokens(t, "::=", sign(":"), sign(":="))
	wantTokens(t, "-->", sign("-"), sign("->"))
	wantTokens(t, "~~==", sign("~"), sign("~="), sign("="))
	wantTokens(t, "x:=-1", name("x"), sign(":="), sign("-"), number(1))
}

// P2.1: each byte that begins no token, at it.
func TestBytesThatBeginNothing(t *testing.T) {
	begins := "abcdefghijklmnopqrstuvwxyz0123456789#'\" \t\n(){},;:!%@+-*/&|~?=<>"
	for c := range 256 {
		b := string([]byte{byte(c)})
		if strings.Contains(begins, b) {
			continue
		}
		wantError(t, b, api.ErrByte, 0)
		wantError(t, "a "+b, api.ErrByte, 2)
		if c != '_' { // which goes on with a name
			wantError(t, "a"+b+"'", api.ErrByte, 1)
		}
	}
}

// P2.1: numbers of both bases up to their bounds.
func TestNumbers(t *testing.T) {
	for s, n := range map[string]int{
		"0": 0, "9": 9, "10": 10, "007": 7, "2147483647": 1<<31 - 1, "0000000000002147483647": 1<<31 - 1, times("0", 1000): 0,
		"#0": 0, "#9": 9, "#a": 10, "#F": 15, "#fF": 255, "#10": 16, "#7fffffff": 1<<31 - 1, "#80000000": -1 << 31, "#80000001": -1<<31 + 1, "#fffffffe": -2, "#FFFFFFFF": -1, "#00000000ffffffff": -1, "#" + times("0", 1000) + "1": 1,
	} {
		wantTokens(t, s, number(n))
	}
	wantTokens(t, "#ffg", number(255), name("g"))
	wantTokens(t, "#ah#1", number(10), name("h"), number(1))
	wantTokens(t, "1#2", number(1), number(2))
	wantTokens(t, "0x1", number(0), name("x1"))
	for _, s := range []string{"2147483648", "2147483650", "4294967295", "9999999999", "18446744073709551616", "18446744073709551617", "36893488147419103232", times("9", 1000), "0002147483648", "#100000000", "#1ffffffff", "#10000000000000000", "#10000000000000001", "#" + times("f", 1000)} {
		wantError(t, s, api.ErrBig, 0)
		wantError(t, "x = "+s+" A", api.ErrBig, 4)
	}
	for _, s := range []string{"#", "# 1", "#g", "##1", "#_", "#\n1", "#'a'", "#G"} {
		wantError(t, s, api.ErrByte, 0)
		wantError(t, "a "+s, api.ErrByte, 2)
	}
}

// escapes are all escapes and what they stand for.
func escapes() map[byte]byte {
	return map[byte]byte{'n': 10, 't': 9, 's': 32, '*': '*', '\'': '\'', '"': '"'}
}

// P2.1: each byte by itself and behind a `*`, in characters and in strings.
func TestCharactersAndStrings(t *testing.T) {
	for c := range 256 {
		b := string([]byte{byte(c)})
		plain := c >= 32 && c <= 126 && c != '*'
		if plain && c != '\'' {
			wantTokens(t, "'"+b+"'", number(c))
		} else if c != '\'' {
			wantError(t, "a '"+b+"'", api.ErrText, 2)
		}
		if plain && c != '"' {
			wantTokens(t, "\"x"+b+"\"", text("x"+b))
		} else if c != '*' && c != '"' {
			wantError(t, "a \"x"+b+"\"", api.ErrText, 2)
		}
		if v, ok := escapes()[byte(c)]; ok {
			wantTokens(t, "'*"+b+"'", number(int(v)))
			wantTokens(t, "\"*"+b+"x*"+b+"\"", text(string([]byte{v, 'x', v})))
		} else {
			wantError(t, "a '*"+b+"'", api.ErrText, 2)
			wantError(t, "a \"*"+b+"\"", api.ErrText, 2)
		}
	}
	wantTokens(t, "\"\"", text(""))
	wantTokens(t, "\"\"\"\"", text(""), text(""))
	wantTokens(t, "\"'\"'\"'", text("'"), number('"'))
	wantTokens(t, "'**''*''", number('*'), number('\''))
	wantTokens(t, "\"***\"\"a", text("*\""), name("a"))
	wantTokens(t, "\"if 1 + // x\"", text("if 1 + // x"))
}

// P2.1: characters and strings that are not as said, or do not end in their line.
func TestTextErrors(t *testing.T) {
	for _, s := range []string{"'", "''", "'''", "'a", "'ab'", "'a\n'", "'\n'", "'*", "'*'", "'*n", "'*n*n'", "'*x'", "'*N'", "' ", "'\ta'",
		"\"", "\"a", "\"a\n\"", "\"*\n\"", "\"*", "\"*\"", "\"a*", "\"a*x\"", "\"\t\"", "\"\x80\"", "\"\x7f\"", "\"a'", "\"a // \n\""} {
		wantError(t, s, api.ErrText, 0)
		wantError(t, "a := "+s, api.ErrText, 5)
	}
}

// P2.1: a string's length is that of what it stands for, and is looked at behind its bytes.
func TestLongStrings(t *testing.T) {
	wantTokens(t, "\""+times("a", 100)+"\"", text(times("a", 100)))
	wantTokens(t, "\""+times("*n", 100)+"\"", text(times("\n", 100)))
	wantError(t, "a\""+times("a", 101)+"\"", api.ErrLimit, 1)
	wantError(t, "a\""+times("**", 101)+"\"", api.ErrLimit, 1)
	wantError(t, "\""+times("a", 101), api.ErrText, 0)
	wantError(t, "\""+times("a", 101)+"\n\"", api.ErrText, 0)
	wantError(t, "\""+times("a", 200)+"*x\"", api.ErrText, 0)
	wantError(t, "\""+times("a", 101)+"\" A", api.ErrLimit, 0)
}

// P2.1: bytes of a source.
func TestLongSources(t *testing.T) {
	wantTokens(t, times(" ", api.MaxSource))
	wantTokens(t, times(" ", api.MaxSource-1)+"a", name("a"))
	wantTokens(t, "//"+times("/", api.MaxSource-2))
	wantError(t, times(" ", api.MaxSource+1), api.ErrLimit, 0)
	wantError(t, "A"+times(" ", api.MaxSource), api.ErrLimit, 0)
	wantError(t, "a '"+times("a", api.MaxSource), api.ErrLimit, 0)
}

// P2.1: tokens of a source, TEnd among them; a token's own error comes first.
func TestManyTokens(t *testing.T) {
	most := times(";", api.MaxTokens-1)
	if l := mustScan(t, most+" // c"); len(l) != api.MaxTokens {
		t.Errorf("%d tokens", len(l))
	}
	wantError(t, most+"; // c", api.ErrLimit, api.MaxTokens+5)
	wantError(t, most+"; a", api.ErrLimit, api.MaxTokens+1)
	wantError(t, most+"; a A", api.ErrLimit, api.MaxTokens+1)
	wantError(t, most+"; A", api.ErrByte, api.MaxTokens+1)
	wantError(t, most+"; #", api.ErrByte, api.MaxTokens+1)
	wantError(t, most+"; ''", api.ErrText, api.MaxTokens+1)
	wantError(t, most+"; #100000000", api.ErrBig, api.MaxTokens+1)
	wantError(t, most+"A", api.ErrByte, api.MaxTokens-1)
	wantError(t, times("1 ", api.MaxTokens), api.ErrLimit, 2*api.MaxTokens)
}

// P2.1: the first error from the left.
func TestFirstError(t *testing.T) {
	wantError(t, "a 2147483648 A '", api.ErrBig, 2)
	wantError(t, "a A 2147483648", api.ErrByte, 2)
	wantError(t, "'ab' #", api.ErrText, 0)
	wantError(t, "b # ''", api.ErrByte, 2)
	wantError(t, times("b", 25)+" A", api.ErrLimit, 0)
}

// reference matches one token, or what is between tokens, in another way than Scan goes.
var reference = regexp.MustCompile("^(?:([ \\t\\n]+|//[^\\n]*)|([a-z][a-z0-9_]*)|([0-9]+)|#([0-9a-fA-F]+)|('(?:[ -&(-)+-~]|\\*[nts*'\"])')|(\"(?:[ !#-)+-~]|\\*[nts*'\"])*\")|(~=|<=|>=|<<|>>|:=|->|[(){},;:!%@+*/&|~?=<>-]))")

// referenceTokens tells tokens by the reference, or the place of the first one that is wrong; -1 if none is.
func referenceTokens(src string) ([]api.Token, int) {
	var list []api.Token
	for place := 0; place < len(src); {
		m := reference.FindStringSubmatch(src[place:])
		if m == nil {
			return nil, place
		}
		token, ok := referenceToken(m)
		token.At = place
		if !ok {
			return nil, place
		}
		if m[1] == "" {
			list = append(list, token)
		}
		place += len(m[0])
	}
	return append(list, api.Token{Kind: api.TEnd, At: len(src)}), -1
}

// referenceToken makes a token of what the reference matched.
func referenceToken(m []string) (api.Token, bool) {
	unescape := strings.NewReplacer("*n", "\n", "*t", "\t", "*s", " ", "**", "*", "*'", "'", "*\"", "\"")
	switch {
	case m[2] != "" && slices.Contains(lex.Keys(), m[2]):
		return key(m[2]), true
	case m[2] != "":
		return name(m[2]), len(m[2]) <= 24
	case m[3] != "":
		n, err := strconv.ParseInt(m[3], 10, 32)
		return number(int(n)), err == nil
	case m[4] != "":
		n, err := strconv.ParseUint(m[4], 16, 32)
		return number(int(int32(uint32(n)))), err == nil
	case m[5] != "":
		return number(int(unescape.Replace(m[5][1 : len(m[5])-1])[0])), true
	case m[6] != "":
		s := unescape.Replace(m[6][1 : len(m[6])-1])
		return text(s), len(s) <= 100
	}
	return sign(m[7]), true
}

// randomSource makes sources of pieces of tokens; few of them have errors.
func randomSource(r *rand.Rand) string {
	pieces := append(append(lex.Keys(), lex.Signs()...), "a", "b_", "x9", " ", " ", "\n", "\t", "//", "1", "23", "#", "#f", "#8000000", "0", "'a'", "'**'", "'*''", "'\"'", "\"a'b*n\"", "\"\"", "\"**\"", "2147483647", "9", "'", "\"", "*", "A")
	var b strings.Builder
	for range r.Intn(12) {
		b.WriteString(pieces[r.Intn(len(pieces))])
	}
	return b.String()
}

// P2.1: any sources, held against the reference.
func TestAnySource(t *testing.T) {
	r := rand.New(rand.NewSource(2))
	good := 0
	for range 40000 {
		src := randomSource(r)
		want, wrong := referenceTokens(src)
		got, err, place := lex.Scan(src)
		if !slices.Equal(got, want) || (err == api.OK) != (wrong < 0) || place != max(wrong, 0) {
			t.Fatalf("Scan(%q) = %v, error %d at %d; want %v, an error at %d", src, got, err, place, want, wrong)
		}
		if err == api.OK {
			good++
		}
	}
	if good < 5000 || good > 35000 {
		t.Errorf("%d sources without an error", good)
	}
}

// P2.6: the tokens of two sources with a line feed between them are those of both, if the first one has no error.
func TestTwoSources(t *testing.T) {
	r := rand.New(rand.NewSource(6))
	for range 20000 {
		a, b := randomSource(r), randomSource(r)
		first, err, _ := lex.Scan(a)
		if err != api.OK {
			continue
		}
		mustScan(t, a)
		second, err, place := lex.Scan(b)
		both, bothErr, bothPlace := lex.Scan(a + "\n" + b)
		if bothErr != err || err != api.OK && bothPlace != len(a)+1+place {
			t.Fatalf("Scan(%q): error %d at %d; of the second one %d at %d", a+"\n"+b, bothErr, bothPlace, err, place)
		}
		if err != api.OK {
			continue
		}
		want := first[:len(first)-1]
		for _, token := range second {
			token.At += len(a) + 1
			want = append(want, token)
		}
		if !slices.Equal(both, want) {
			t.Fatalf("Scan(%q) = %v; want %v", a+"\n"+b, both, want)
		}
	}
}
