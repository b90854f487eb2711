package lex

import (
	"math"
	"strings"

	"bluebell/api"
)

const notDigit = 16 // above every digit of the bases 10 and 16

// scanner goes through a source: the token that is read begins at at, and next is the byte behind what was read of it.
type scanner struct {
	src      string
	at, next int
	keys     map[string]bool
	signs    []string
}

// Scan returns the tokens of a source, or its first error and the error's place (P2.1).
func Scan(src string) ([]api.Token, api.Errno, int) {
	if len(src) > api.MaxSource {
		return nil, api.ErrLimit, 0
	}
	s := scanner{src: src, keys: keywords(), signs: Signs()}
	var tokens []api.Token
	for {
		s.skip()
		tell := s.teller()
		token, err := tell()
		if err == api.OK && len(tokens) == api.MaxTokens {
			err = api.ErrLimit
		}
		if err != api.OK {
			return nil, err, s.at
		}
		token.At = s.at
		tokens = append(tokens, token)
		if token.Kind == api.TEnd {
			return tokens, api.OK, 0
		}
	}
}

// skip passes over blanks and comments, and leaves at and next where the next token begins.
func (s *scanner) skip() {
	for s.next < len(s.src) && s.skipOne() {
	}
	s.at = s.next
}

func (s *scanner) skipOne() bool {
	rest := s.src[s.next:]
	switch {
	case rest[0] == ' ' || rest[0] == '\t' || rest[0] == '\n':
		s.next++
	case strings.HasPrefix(rest, "//"):
		s.next += len("//")
		for s.next < len(s.src) && s.src[s.next] != '\n' {
			s.next++
		}
	default:
		return false
	}
	return true
}

// teller returns the method that reads the token that begins at the current place.
func (s *scanner) teller() func() (api.Token, api.Errno) {
	if s.at == len(s.src) {
		return s.end
	}
	switch c := s.src[s.at]; {
	case beginsWord(c):
		return s.word
	case isDigit(c):
		return s.decimal
	case c == '#':
		return s.hexadecimal
	case c == '\'':
		return s.character
	case c == '"':
		return s.text
	}
	return s.sign
}

func (s *scanner) end() (api.Token, api.Errno) {
	return api.Token{Kind: api.TEnd}, api.OK
}

func (s *scanner) word() (api.Token, api.Errno) {
	for s.next < len(s.src) && goesOnWord(s.src[s.next]) {
		s.next++
	}
	word := s.src[s.at:s.next]
	if len(word) > api.MaxName {
		return api.Token{}, api.ErrLimit
	}
	if s.keys[word] {
		return api.Token{Kind: api.TKey, S: word}, api.OK
	}
	return api.Token{Kind: api.TName, S: word}, api.OK
}

func (s *scanner) decimal() (api.Token, api.Errno) {
	return s.number(10, math.MaxInt32)
}

func (s *scanner) hexadecimal() (api.Token, api.Errno) {
	s.next++
	if s.next == len(s.src) || digit(s.src[s.next]) == notDigit {
		return api.Token{}, api.ErrByte
	}
	return s.number(16, math.MaxUint32)
}

// number reads all digits that follow, whatever their value: a number that is too great ends where its digits do.
func (s *scanner) number(base, most int) (api.Token, api.Errno) {
	n := 0
	for s.next < len(s.src) && digit(s.src[s.next]) < base {
		n = min(n*base+digit(s.src[s.next]), most+1) // more than most is too great already, and stays so
		s.next++
	}
	if n > most {
		return api.Token{}, api.ErrBig
	}
	return api.Token{Kind: api.TNumber, N: int(int32(n))}, api.OK
}

func digit(c byte) int {
	switch {
	case isDigit(c):
		return int(c - '0')
	case c >= 'a' && c <= 'f':
		return int(c-'a') + 10
	case c >= 'A' && c <= 'F':
		return int(c-'A') + 10
	}
	return notDigit
}

func (s *scanner) character() (api.Token, api.Errno) {
	s.next++
	c, ok := s.part('\'')
	if !ok || s.next == len(s.src) || s.src[s.next] != '\'' {
		return api.Token{}, api.ErrText
	}
	s.next++
	return api.Token{Kind: api.TNumber, N: int(c)}, api.OK
}

func (s *scanner) text() (api.Token, api.Errno) {
	s.next++
	var text []byte
	for s.next < len(s.src) && s.src[s.next] != '"' {
		c, ok := s.part('"')
		if !ok {
			return api.Token{}, api.ErrText
		}
		text = append(text, c)
	}
	if s.next == len(s.src) {
		return api.Token{}, api.ErrText
	}
	s.next++
	if len(text) > api.MaxString {
		return api.Token{}, api.ErrLimit
	}
	return api.Token{Kind: api.TString, S: string(text)}, api.OK
}

// part reads a byte or an escape between quotes, and returns what it stands for.
func (s *scanner) part(quote byte) (byte, bool) {
	if s.next == len(s.src) {
		return 0, false
	}
	c := s.src[s.next]
	s.next++
	if c != '*' {
		return c, isPlain(c) && c != quote
	}
	if s.next == len(s.src) {
		return 0, false
	}
	c = s.src[s.next]
	s.next++
	return escaped(c)
}

// escaped returns what `*` and c stand for.
func escaped(c byte) (byte, bool) {
	switch c {
	case 'n':
		return '\n', true
	case 't':
		return '\t', true
	case 's':
		return ' ', true
	case '*', '\'', '"':
		return c, true
	}
	return 0, false
}

func (s *scanner) sign() (api.Token, api.Errno) {
	longest := ""
	for _, sign := range s.signs {
		if len(sign) > len(longest) && strings.HasPrefix(s.src[s.at:], sign) {
			longest = sign
		}
	}
	if longest == "" {
		return api.Token{}, api.ErrByte
	}
	s.next += len(longest)
	return api.Token{Kind: api.TSign, S: longest}, api.OK
}
