package pack

import "rheostat/api"

// Size is how many words fields of these widths take.
func Size(widths ...int) int {
	many, _ := size(widths)
	return many
}

// Fields is values one behind the other, each in as many bits as its width tells.
func Fields(widths, values []int) ([]int, api.Errno) {
	many, e := room(widths)
	if e != api.OK {
		return nil, e
	}
	if !fit(widths, values) {
		return nil, api.ErrArg
	}
	words := make([]int, many)
	walk(widths, func(field, bit, at int) {
		words[at/wordBits] |= values[field] >> bit & 1 << under(at)
	})
	return words, api.OK
}

// Split is the values of the fields that stand in words.
func Split(widths, words []int) ([]int, api.Errno) {
	many, e := room(widths)
	if e != api.OK {
		return nil, e
	}
	own, e := first(many, words)
	if e != api.OK {
		return nil, e
	}
	values := make([]int, len(widths))
	walk(widths, func(field, bit, at int) {
		values[field] |= own[at/wordBits] >> under(at) & 1 << bit
	})
	return values, api.OK
}

// room is how many words fields take, of which there may be no more than a list has.
func room(widths []int) (int, api.Errno) {
	if len(widths) > api.MaxItems {
		return 0, api.ErrLong
	}
	return size(widths)
}

// size is how many words fields take, however many they are.
func size(widths []int) (int, api.Errno) {
	all := 0
	for _, w := range widths {
		if !within(1, wordBits, w) {
			return 0, api.ErrArg
		}
		all += w
	}
	return (all + wordBits - 1) / wordBits, api.OK
}

// fit tells whether there is a value for each width, and whether it goes into it.
func fit(widths, values []int) bool {
	if len(widths) != len(values) {
		return false
	}
	for i, v := range values {
		if !within(0, 1<<widths[i]-1, v) {
			return false
		}
	}
	return true
}

// walk goes through the bits of fields in order: whose bit it is, which one of that field (0: the lowest), and its place among all.
func walk(widths []int, do func(field, bit, at int)) {
	at := 0
	for field, w := range widths {
		for bit := w - 1; bit >= 0; bit-- {
			do(field, bit, at)
			at++
		}
	}
}

// under is how many bits of its word lie under the one at a place.
func under(at int) int { return wordBits - 1 - at%wordBits }
