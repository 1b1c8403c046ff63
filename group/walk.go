package group

import (
	"iter"

	"rheostat/api"
	"rheostat/slot"
)

// walk is a group's words, which are gone through slot by slot.
type walk []int

// slots are the places of the slots, from the front, and their words.
func (w walk) slots() iter.Seq2[int, []int] {
	return func(yield func(at int, own []int) bool) {
		for at := range Slots(len(w)) {
			if !yield(at, w.part(at, at+1)) {
				return
			}
		}
	}
}

// part is the words of the slots from one place up to another.
func (w walk) part(from, to int) walk { return w[from*api.SlotWords : to*api.SlotWords] }

// free is the place of the slot behind the last one that is not blank.
func (w walk) free() int {
	free := 0
	for at, own := range w.slots() {
		if !slot.Blank(own...) {
			free = at + 1
		}
	}
	return free
}

// ahead is the records in so many slots just ahead of a place, and whether there are so many, all of them whole.
func (w walk) ahead(at, many int) ([]api.Slot, bool) {
	if many > at {
		return nil, false
	}
	var l []api.Slot
	for _, own := range w.part(at-many, at).slots() {
		s, e := slot.Read(own...)
		if e != api.OK {
			return nil, false
		}
		l = append(l, s)
	}
	return l, true
}

// Slots is how many slots so many words have.
func Slots(words int) int { return max(words, 0) / api.SlotWords }
