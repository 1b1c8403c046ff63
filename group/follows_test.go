package group

import (
	"math/rand"
	"slices"
	"testing"

	"rheostat/api"
	"rheostat/slot"
)

// The chapter's words on slots that are known by name, so that what Scan reads from words is held against what was meant.

// meant is a slot: a record, if it is whole; else it is blank or torn.
type meant struct {
	record api.Slot
	whole  bool
	blank  bool
}

// words are the slot's words.
func (m meant) words() []int {
	switch {
	case m.whole:
		return spell(m.record)
	case m.blank:
		return blank(1)
	}
	words := spell(m.record)
	words[13] ^= 1 // which leaves the sum wrong
	return words
}

// wholes are records as slots that are whole.
func wholes(l ...api.Slot) []meant {
	var slots []meant
	for _, s := range l {
		slots = append(slots, meant{record: s, whole: true})
	}
	return slots
}

// workedOut is what is to be found in slots, by the chapter's words.
func workedOut(l []meant) Found {
	var f Found
	var live [4][11]int
	for at, m := range l {
		if m.blank {
			continue
		}
		f.Free = at + 1
		many, first, is := slot.IsCommit(m.record)
		if !m.whole || !is || many > at {
			continue
		}
		fits, last := true, -1
		for _, r := range l[at-many : at] {
			fits = fits && r.whole && r.record.Kind < 4 && r.record.Kind > last && r.record.Sequence == m.record.Sequence
			last = r.record.Kind
		}
		began := f.Commits == 0 && first && many == 4
		wentOn := f.Commits > 0 && !first && m.record.Sequence > f.Sequence
		if !fits || !began && !wentOn {
			continue
		}
		f.Has, f.Commits, f.Sequence = true, f.Commits+1, m.record.Sequence
		for _, r := range l[at-many : at] {
			live[r.record.Kind] = r.record.Payload
		}
		f.Live = live
	}
	return f
}

// drawn draws some of the Kinds, rising, as records with a Sequence.
func drawn(r *rand.Rand, sequence int) []api.Slot {
	var l []api.Slot
	kinds := 1 + r.Intn(15)
	for kind := range 4 {
		if kinds>>kind&1 == 1 {
			l = append(l, record(kind, sequence, r.Intn(65536), r.Intn(65536), 65535*r.Intn(2)))
		}
	}
	return l
}

// drawGroup draws a group of commits that mostly count.
func drawGroup(r *rand.Rand) []meant {
	sequence := 1 + r.Intn(3)
	l := wholes(begun(sequence, r.Intn(60000))...)
	for range r.Intn(5) {
		sequence += r.Intn(8)/4 + r.Intn(8)/7
		own := drawn(r, sequence)
		l = append(l, wholes(own...)...)
		l = append(l, wholes(commit(sequence, len(own), r.Intn(9) == 0))...)
	}
	return append(l, slices.Repeat([]meant{{blank: true}}, r.Intn(4))...)
}

// spoil spoils a group in one way, at a place that is drawn.
func spoil(r *rand.Rand, l []meant) []meant {
	if len(l) == 0 {
		return l
	}
	at := r.Intn(len(l))
	switch r.Intn(9) {
	case 0:
		l = slices.Delete(l, at, at+1)
	case 1:
		l = slices.Insert(l, at, l[at])
	case 2:
		l = slices.Insert(l, at, l[r.Intn(len(l))])
	case 3:
		l[at].whole = false
	case 4:
		l[at] = meant{blank: true}
	case 5:
		l[at].record.Sequence = r.Intn(9)
	case 6:
		l[at].record.Kind = r.Intn(5)
	case 7:
		l[at].record.Payload[0] = r.Intn(6)
	case 8:
		l[at].record.Payload[1] = r.Intn(3)
	}
	return l
}

// 7.1: what is found in groups of all sorts.
func TestScanOfGroups(t *testing.T) {
	r := rand.New(rand.NewSource(1))
	counted := map[int]int{}
	for range 20000 {
		l := drawGroup(r)
		for range r.Intn(4) {
			l = spoil(r, l)
		}
		var words []int
		for _, m := range l {
			words = append(words, m.words()...)
		}
		want := workedOut(l)
		counted[want.Commits]++
		scans(t, want, words...)
	}
	for many := range 5 {
		if counted[many] < 100 {
			t.Errorf("only %d groups have %d commits that count", counted[many], many)
		}
	}
}

// program lays a beginning of words, so many, over a group's words, as a flash does it: bits are only lost.
func program(words []int, at int, own ...int) []int {
	words = slices.Clone(words)
	for i, w := range own {
		words[at+i] &= w
	}
	return words
}

// behind is what is found behind a commit of these that counts.
func behind(f Found, sequence int, l ...api.Slot) Found {
	f.Has, f.Sequence, f.Commits, f.Free = true, sequence, f.Commits+1, f.Free+len(l)+1
	for _, s := range l {
		f.Live[s.Kind] = s.Payload
	}
	return f
}

// groups are groups with room for a commit of all Kinds at their ends: what is left of cuts in some of them.
func groups(r *rand.Rand) [][]int {
	room := blank(5)
	rough := slices.Concat(spell(begun(3, 10)...), blank(1), torn(), spell(record(1, 4, 99)), torn(), room, []int{7, 7})
	l := [][]int{room, append(blank(9), 1, 2), append(torn(), room...), append(spell(all(3, 1)...), room...),
		append(spell(begun(3, 10)...), room...), rough, append(spell(append(begun(3, 10), all(4, 50)...)...), room...)}
	for range 40 {
		words := []int{}
		for _, m := range drawGroup(r) {
			words = append(words, m.words()...)
		}
		l = append(l, append(words, room...))
	}
	return l
}

// next is the Sequence that a commit has behind what was found, and whether it is the first one.
func next(f Found) (int, bool) { return f.Sequence + 1, !f.Has }

// 7.3: behind Put the commit counts, what it has is alive, and all else stays.
func TestPutCounts(t *testing.T) {
	r := rand.New(rand.NewSource(2))
	for _, words := range groups(r) {
		for more := range 3 {
			for range 10 {
				f := Scan(words...)
				sequence, first := next(f)
				l := drawn(r, 0)
				if first {
					l = all(0, 100+more)
				}
				sequence += 1000 * more
				own, at, e := Put(words, sequence, first, l...)
				if e != api.OK || at != 16*f.Free {
					t.Fatalf("Put: %d, %v", at, e)
				}
				scans(t, behind(f, sequence, l...), program(words, at, own...)...)
			}
		}
	}
}

// 7.4: with a beginning of the words alone all is as ahead of it, but for Free, which is behind what was begun.
func TestBeginnings(t *testing.T) {
	r := rand.New(rand.NewSource(3))
	for _, words := range groups(r) {
		f := Scan(words...)
		sequence, first := next(f)
		l := drawn(r, 0)
		if first {
			l = all(0, 100)
		}
		own, at, e := Put(words, sequence, first, l...)
		if e != api.OK {
			t.Fatalf("Put: %v", e)
		}
		for cut := range own {
			want := f
			want.Free += (cut + 15) / 16
			scans(t, want, program(words, at, own[:cut]...)...)
		}
		scans(t, behind(f, sequence, l...), program(words, at, own...)...)
	}
}

// 7.4, again and again: whatever beginnings are left, with the same Sequence too, what counts is what was put wholly.
func TestPutsAndCuts(t *testing.T) {
	r := rand.New(rand.NewSource(4))
	for range 300 {
		words := blank(64)
		var want Found
		for {
			sequence, first := next(want)
			l := drawn(r, 0)
			if first {
				l = all(0, r.Intn(60000))
			}
			own, at, e := Put(words, sequence, first, l...)
			if e == api.ErrFull && want.Free+len(l)+1 > 64 {
				break
			}
			if e != api.OK || at != 16*want.Free {
				t.Fatalf("Put: %d, %v, want %d", at, e, 16*want.Free)
			}
			if cut := r.Intn(2 * len(own)); cut < len(own) {
				own = own[:cut]
				want.Free += (cut + 15) / 16
			} else {
				want = behind(want, sequence, l...)
			}
			words = program(words, at, own...)
			scans(t, want, words...)
		}
	}
}

// 7.5: torn slots behind the last commit change nothing but Free.
func TestTornBehind(t *testing.T) {
	r := rand.New(rand.NewSource(5))
	for _, words := range groups(r) {
		f := Scan(words...)
		for at := f.Free; at < Slots(len(words)); at++ {
			want := f
			want.Free = at + 1
			scans(t, want, program(words, 16*at, torn()...)...)
			scans(t, want, program(words, 16*at+r.Intn(16), 65535-1<<r.Intn(16))...)
			all := program(words, 16*f.Free, slices.Repeat(torn(), at+1-f.Free)...)
			scans(t, want, all...)
		}
	}
}

// 7.6: Free never falls by putting, whatever is put, and whatever of it is done.
func TestFreeNeverFalls(t *testing.T) {
	r := rand.New(rand.NewSource(6))
	for _, words := range groups(r) {
		for range 50 {
			f := Scan(words...)
			own, at, e := Put(words, r.Intn(20), r.Intn(2) == 0, drawn(r, 0)...)
			if e != api.OK {
				continue
			}
			cut := r.Intn(len(own) + 1)
			words = program(words, at, own[:cut]...)
			if got := Scan(words...).Free; got != f.Free+(cut+15)/16 {
				t.Fatalf("Free: %d, and %d behind a put", f.Free, got)
			}
		}
	}
}

// P1: no call panics, whatever it is given.
func TestAnyArguments(t *testing.T) {
	r := rand.New(rand.NewSource(7))
	edges := append([]int{0, 1, 2, 3, 4, 5, 21930, 23040, 23041, 23044, 65534, 65535, topSequence}, append(noWords, noSequences...)...)
	draw := func() int { return edges[r.Intn(len(edges))] }
	for range 20000 {
		words := make([]int, r.Intn(120))
		for i := range words {
			words[i] = draw()
		}
		f := Scan(words...)
		if f != (Found{Free: f.Free}) || f.Free < 0 || f.Free > len(words)/16 {
			t.Fatalf("Scan(%v): %+v", words, f)
		}
		l := make([]api.Slot, r.Intn(7))
		for i := range l {
			l[i] = record(draw(), draw(), draw(), draw())
		}
		if own, at, e := Put(words, draw(), r.Intn(2) == 0, l...); e != api.OK && (len(own) != 0 || at != 0) {
			t.Fatalf("Put(%v, %v): %v, %d, %v", words, l, own, at, e)
		}
		Slots(draw())
	}
	if f := Scan(slices.Repeat(spell(record(1, 1)), 50000)...); f != (Found{Free: 50000}) { // no bound is named
		t.Errorf("of many records: %+v", f)
	}
}
