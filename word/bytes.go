package word

import "bluebell/api"

const maxPacked = 255 // the greatest length that one byte can tell

// GetByte returns the byte i of words (P1.4).
func GetByte(words []int, i int, f api.Form) (int, api.Errno) {
	if err := checkByte(words, i, f); err != api.OK {
		return 0, err
	}
	return int(byteAt(words, i, f)), api.OK
}

// PutByte returns the words with their byte i changed to the lowest eight bits of v (P1.4).
func PutByte(words []int, i, v int, f api.Form) ([]int, api.Errno) {
	if err := checkByte(words, i, f); err != api.OK {
		return nil, err
	}
	at, shift := place(i, f)
	changed := make([]int, len(words))
	copy(changed, words)
	changed[at] = changed[at]&^(0xff<<shift) | (v&0xff)<<shift
	return normAll(changed, f), api.OK
}

// Pack returns the packed string of s (P1.5).
func Pack(s string, f api.Form) ([]int, api.Errno) {
	if !Valid(f) {
		return nil, api.ErrForm
	}
	if len(s) > maxPacked {
		return nil, api.ErrLimit
	}
	return join(append([]byte{byte(len(s))}, s...), f), api.OK
}

// Unpack returns the text of a packed string (P1.5).
func Unpack(words []int, f api.Form) (string, api.Errno) {
	if !Valid(f) {
		return "", api.ErrForm
	}
	if len(words) == 0 {
		return "", api.ErrEnd
	}
	text := make([]byte, byteAt(words, 0, f))
	if len(text) >= len(words)*wordBytes(f) {
		return "", api.ErrEnd
	}
	for i := range len(text) {
		text[i] = byteAt(words, i+1, f)
	}
	return string(text), api.OK
}

// Bytes returns all bytes of words in their order (P1.6).
func Bytes(words []int, f api.Form) ([]byte, api.Errno) {
	if !Valid(f) {
		return nil, api.ErrForm
	}
	b := make([]byte, len(words)*wordBytes(f))
	for i := range len(b) {
		b[i] = byteAt(words, i, f)
	}
	return b, api.OK
}

// Words returns the words whose bytes are b (P1.6).
func Words(b []byte, f api.Form) ([]int, api.Errno) {
	if !Valid(f) || len(b)%wordBytes(f) != 0 {
		return nil, api.ErrForm
	}
	return join(b, f), api.OK
}

func checkByte(words []int, i int, f api.Form) api.Errno {
	if !Valid(f) {
		return api.ErrForm
	}
	if i < 0 || i/wordBytes(f) >= len(words) {
		return api.ErrRange
	}
	return api.OK
}

func wordBytes(f api.Form) int {
	return f.Bits / 8
}

// place returns which word holds the byte i, and by how many bits it is shifted there.
func place(i int, f api.Form) (at, shift int) {
	n := wordBytes(f)
	in := i % n
	if f.Big {
		in = n - 1 - in
	}
	return i / n, 8 * in
}

func byteAt(words []int, i int, f api.Form) byte {
	at, shift := place(i, f)
	return byte(words[at] >> shift)
}

// join puts bytes into as few words as they need; zero bytes fill the last one.
func join(b []byte, f api.Form) []int {
	n := wordBytes(f)
	words := make([]int, (len(b)+n-1)/n)
	for i := range len(b) {
		at, shift := place(i, f)
		words[at] |= int(b[i]) << shift
	}
	return normAll(words, f)
}

// normAll norms words in place.
func normAll(words []int, f api.Form) []int {
	for i, w := range words {
		words[i] = norm(w, f.Bits)
	}
	return words
}
