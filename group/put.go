package group

import (
	"slices"

	"rheostat/api"
	"rheostat/slot"
)

// Put is the words of records and of their commit, and the place of the first of these words, behind all that is not blank. Whether the commit will count is not asked: that is told by Scan alone.
func Put(words []int, sequence int, first bool, l ...api.Slot) ([]int, int, api.Errno) {
	c, e := slot.Commit(sequence, len(l), first)
	if e != api.OK || !rising(l...) {
		return nil, 0, api.ErrArg
	}
	own, e := laid(sequence, slices.Concat(l, []api.Slot{c})...)
	if e != api.OK {
		return nil, 0, e
	}
	free := walk(words).free()
	if Slots(len(words))-free < Slots(len(own)) {
		return nil, 0, api.ErrFull
	}
	return own, free * api.SlotWords, api.OK
}

// laid is the words of records, one behind the other, all with that Sequence.
func laid(sequence int, l ...api.Slot) ([]int, api.Errno) {
	var words []int
	for _, s := range l {
		s.Sequence = sequence
		own, e := slot.Words(s)
		if e != api.OK {
			return nil, e
		}
		words = append(words, own...)
	}
	return words, api.OK
}
