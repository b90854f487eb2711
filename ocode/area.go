package ocode

import (
	"bluebell/api"
	"bluebell/word"
)

// Words returns the words of an area (P6.5).
func Words(d api.Data, f api.Form) ([]int, api.Errno) {
	if !word.Valid(f) {
		return nil, api.ErrForm
	}
	if d.IsText {
		return word.Pack(d.Text, f)
	}
	words := make([]int, len(d.Words))
	for i, w := range d.Words {
		words[i], _ = word.Norm(w, f.Bits)
	}
	return words, api.OK
}

// Layout returns the addresses of all areas, and the first one behind them (P6.5).
func Layout(c api.Code, f api.Form) ([]int, int, api.Errno) {
	if err := Check(c); err != api.OK {
		return nil, 0, err
	}
	if !word.Valid(f) {
		return nil, 0, api.ErrForm
	}
	addresses := make([]int, len(c.Data))
	end := api.GlobalSize
	for i, d := range c.Data {
		words, err := Words(d, f)
		if err != api.OK {
			return nil, 0, err
		}
		addresses[i] = end
		end += len(words)
	}
	if end > api.StackBase {
		return nil, 0, api.ErrLimit
	}
	return addresses, end, api.OK
}
