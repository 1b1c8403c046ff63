package group

import (
	"slices"
	"testing"

	"rheostat/api"
)

// puts wants Put to tell these words at that place.
func puts(t *testing.T, wantAt int, want, words []int, sequence int, first bool, l ...api.Slot) {
	t.Helper()
	got, at, e := Put(words, sequence, first, l...)
	if e != api.OK || at != wantAt || !slices.Equal(got, want) {
		t.Fatalf("Put(%v, %d, %t, %v): %v, %d, %v, want %v at %d", words, sequence, first, l, got, at, e, want, wantAt)
	}
}

// refused wants Put to tell this error, and nothing else.
func refused(t *testing.T, want api.Errno, words []int, sequence int, first bool, l ...api.Slot) {
	t.Helper()
	if got, at, e := Put(words, sequence, first, l...); e != want || len(got) != 0 || at != 0 {
		t.Fatalf("Put(%v, %d, %t, %v): %v, %d, %v, want %v", words, sequence, first, l, got, at, e, want)
	}
}

// 7.2: Put

func TestExample(t *testing.T) {
	l := all(1, 10)
	puts(t, 0, spell(begun(1, 10)...), blank(9), 1, true, l...)
	if words, _, _ := Put(blank(9), 1, true, l...); len(words) != 80 {
		t.Errorf("%d words", len(words))
	}
}

func TestPut(t *testing.T) {
	for _, sequence := range []int{0, 1, 65535, 65536, topSequence} {
		for _, first := range []bool{false, true} {
			for kinds := 1; kinds < 16; kinds++ { // all rising Kinds
				var l []api.Slot
				for kind := range 4 {
					if kinds>>kind&1 == 1 {
						l = append(l, record(kind, sequence, 7, kind, 65535))
					}
				}
				want := spell(slices.Concat(l, []api.Slot{commit(sequence, len(l), first)})...)
				puts(t, 0, want, blank(5), sequence, first, l...)
				puts(t, 16*2, want, slices.Concat(blank(1), torn(), blank(5)), sequence, first, l...)
				puts(t, 16*5, want, slices.Concat(spell(begun(3, 1)...), blank(7), []int{1, 2, 3}), sequence, first, l...) // what is left counts for nothing
			}
		}
	}
}

// Whatever the Sequences of the records, they are put with the one that is told, and these are left alone.
func TestPutTakesOneSequence(t *testing.T) {
	for _, other := range append([]int{0, 1, 8, 65536, topSequence}, noSequences...) {
		l := all(8, 1)
		l[0].Sequence, l[3].Sequence = other, other
		before := slices.Clone(l)
		puts(t, 0, spell(begun(8, 1)...), blank(5), 8, true, l...)
		if !slices.Equal(l, before) {
			t.Fatalf("the records: %v, want %v", l, before)
		}
	}
}

// Put tells the words, whether their commit will count or not: no error is named for that.
func TestPutOfWhatCountsNot(t *testing.T) {
	began := append(spell(begun(8, 1)...), blank(5)...)
	puts(t, 80, spell(record(1, 8, 5), commit(8, 1, false)), began, 8, false, record(1, 0, 5))
	puts(t, 80, spell(record(1, 3, 5), commit(3, 1, false)), began, 3, false, record(1, 0, 5))
	puts(t, 80, spell(begun(9, 5)...), began, 9, true, all(0, 5)...)
	puts(t, 0, spell(record(1, 3, 5), commit(3, 1, false)), blank(2), 3, false, record(1, 0, 5))
	puts(t, 0, spell(record(1, 3, 5), commit(3, 1, true)), blank(2), 3, true, record(1, 0, 5))
}

// P1: what is put comes ahead of whether there is room.
func TestPutRefuses(t *testing.T) {
	for _, words := range [][]int{nil, {}, blank(1), blank(9), torn(), spell(begun(1, 1)...)} {
		for _, first := range []bool{false, true} {
			arg := func(sequence int, l ...api.Slot) {
				t.Helper()
				refused(t, api.ErrArg, words, sequence, first, l...)
			}
			arg(9)
			arg(9, []api.Slot{}...)
			arg(9, append(all(9, 1), record(3, 9))...)
			arg(9, append(all(9, 1), record(4, 9))...)
			arg(9, slices.Repeat(all(9, 1), 100)...)
			for _, kinds := range [][]int{{-1}, {4}, {5}, {noWords[3]}, {noWords[6]}, {0, 0}, {1, 0}, {3, 3}, {3, 4}, {-1, 0}, {0, 2, 1}, {2, 2, 3}, {0, 1, 2, 4}, {0, 1, 3, 2}, {-1, 0, 1, 2}, {0, 1, 2, 3, 4}} {
				var l []api.Slot
				for _, kind := range kinds {
					l = append(l, record(kind, 9))
				}
				arg(9, l...)
			}
			for _, sequence := range noSequences {
				arg(sequence, record(1, 9))
				arg(sequence, all(9, 1)...)
			}
			for at := range 4 {
				for place := range 11 {
					for _, w := range noWords {
						l := all(9, 1)
						l[at].Payload[place] = w
						arg(9, l...)
						arg(9, l[at])
					}
				}
			}
		}
	}
}

func TestPutIsFull(t *testing.T) {
	for many := 1; many <= 4; many++ {
		l := all(9, 1)[:many]
		want := spell(slices.Concat(l, []api.Slot{commit(9, many, false)})...)
		for _, used := range [][]int{nil, torn(), slices.Concat(blank(7), torn()), spell(begun(8, 1)...)} {
			for room := range 16 * (many + 1) {
				words := append(slices.Clone(used), blank(6)[:room]...)
				refused(t, api.ErrFull, words, 9, false, l...)
				refused(t, api.ErrFull, words, 9, true, l...)
			}
			for more := range 33 {
				puts(t, len(used), want, append(slices.Clone(used), blank(7)[:16*(many+1)+more]...), 9, false, l...)
			}
		}
	}
}

// Blank slots that are not at the end are no room, nor is what is left behind the last slot.
func TestRoomIsAtTheEnd(t *testing.T) {
	words := slices.Concat(blank(9), torn(), blank(1), blank(1)[:15])
	refused(t, api.ErrFull, words, 9, false, record(1, 9))
	words[16*10] = 0
	refused(t, api.ErrFull, words, 9, false, record(1, 9))
	words[16*9+15] = 65535 // the torn one is blank, and another one is not
	refused(t, api.ErrFull, words, 9, false, record(1, 9))
	words[16*10] = 65535
	puts(t, 0, spell(record(1, 9), commit(9, 1, false)), words, 9, false, record(1, 9))
}

// Rules: what is handed in is not changed, not even behind its end, and what is handed out is the caller's own.
func TestPutHandedInAndOut(t *testing.T) {
	room := append(spell(begun(8, 1)...), blank(5)...)
	words := append(room, 1, 2, 3, 4, 5)[:len(room)]
	many := append(all(0, 20), record(2, 2, 2), record(3, 3, 3))
	l := many[:4]
	wordsBefore, manyBefore := slices.Clone(words[:len(room)+5]), slices.Clone(many)
	puts(t, 80, spell(append(all(9, 20), commit(9, 4, false))...), words, 9, false, l...)
	got, _, _ := Put(words, 9, false, l...)
	clear(got[:cap(got)])
	puts(t, 80, spell(append(all(9, 20), commit(9, 4, false))...), words, 9, false, l...)
	got, _, _ = Put(words, 9, false, l...)
	if !slices.Equal(words[:len(room)+5], wordsBefore) || !slices.Equal(many, manyBefore) {
		t.Errorf("the words %v, the records %v", words, many)
	}
	clear(words)
	clear(many)
	if !slices.Equal(got, spell(append(all(9, 20), commit(9, 4, false))...)) {
		t.Errorf("%v hangs on what was handed in", got)
	}
}
