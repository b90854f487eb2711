package lex

import (
	"math"
	"slices"
	"strconv"
	"strings"

	"bluebell/api"
)

// Quote returns the token of a string (P2.3).
func Quote(s string) (string, api.Errno) {
	for i := range len(s) {
		if !isPlain(s[i]) && s[i] != '\n' && s[i] != '\t' {
			return "", api.ErrForm
		}
	}
	if len(s) > api.MaxString {
		return "", api.ErrLimit
	}
	quoted := []byte{'"'}
	for i := range len(s) {
		switch c := s[i]; c {
		case '\n':
			quoted = append(quoted, "*n"...)
		case '\t':
			quoted = append(quoted, "*t"...)
		case '*', '"':
			quoted = append(quoted, '*', c)
		default:
			quoted = append(quoted, c)
		}
	}
	return string(append(quoted, '"')), api.OK
}

// Number returns the token of a number (P2.3).
func Number(n int) (string, api.Errno) {
	if n < math.MinInt32 || n > math.MaxInt32 {
		return "", api.ErrRange
	}
	if n >= 0 {
		return strconv.Itoa(n), api.OK
	}
	return "#" + strconv.FormatUint(uint64(uint32(n)), 16), api.OK // a negative word has no zero digits in front
}

// Line returns the line in which a byte is, and how many bytes are before it there (P2.4).
func Line(src string, at int) (line, column int, err api.Errno) {
	if at < 0 || at > len(src) {
		return 0, 0, api.ErrRange
	}
	before := src[:at]
	return 1 + strings.Count(before, "\n"), at - (1 + strings.LastIndexByte(before, '\n')), api.OK
}

// Text returns a source of tokens (P2.5).
func Text(l []api.Token) (string, api.Errno) {
	w := writer{keys: keywords(), signs: Signs()}
	var text strings.Builder
	for i, token := range l {
		written, ok := w.write(token)
		if !ok {
			return "", api.ErrForm
		}
		if token.Kind == api.TEnd {
			break
		}
		if i > 0 {
			text.WriteByte(' ')
		}
		text.WriteString(written)
	}
	return text.String(), api.OK
}

// writer writes single tokens.
type writer struct {
	keys  map[string]bool
	signs []string
}

// write returns the text of a token, and whether Scan makes such a token.
func (w writer) write(t api.Token) (string, bool) {
	switch t.Kind {
	case api.TEnd:
		return "", t.S == "" && t.N == 0
	case api.TNumber:
		s, err := Number(t.N)
		return s, err == api.OK && t.S == ""
	case api.TString:
		s, err := Quote(t.S)
		return s, err == api.OK && t.N == 0
	case api.TName:
		return t.S, isWord(t.S) && !w.keys[t.S] && t.N == 0
	case api.TKey:
		return t.S, w.keys[t.S] && t.N == 0
	case api.TSign:
		return t.S, slices.Contains(w.signs, t.S) && t.N == 0
	}
	return "", false
}
