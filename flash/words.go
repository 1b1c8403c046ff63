package flash

import "rheostat/api"

// words are a flash's words, numbered from 0 on through all pages.
type words []int

// blank makes so many erased words.
func blank(many int) words {
	w := make(words, many)
	for i := range w {
		w[i] = api.Blank
	}
	return w
}

// holds tells whether there are so many words from a place on; of none, the place may be the one behind the last word.
func (w words) holds(at, many int) bool { return within(0, len(w)-many, at) }

// write does a raw write.
func (w words) write(r api.Raw) {
	if r.Erase {
		w[r.At] = api.Blank
		return
	}
	w[r.At] &= r.Value
}

// fit tells whether all values may stand in words, of which the erased one has all its bits.
func fit(values ...int) bool {
	for _, v := range values {
		if !within(0, api.Blank, v) {
			return false
		}
	}
	return true
}
