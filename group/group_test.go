package group

import (
	"math"
	"slices"
	"testing"

	"rheostat/api"
	"rheostat/slot"
)

// topSequence is the greatest Sequence.
const topSequence = 4294967295

// noSequences are numbers that are no Sequences.
var noSequences = []int{-1, -2, -65536, math.MinInt, topSequence + 1, 1 << 33, math.MaxInt}

// noWords are numbers that are no words.
var noWords = []int{-1, -65535, -65536, math.MinInt, 65536, 131071, math.MaxInt}

// record is a record with a payload that begins so.
func record(kind, sequence int, payload ...int) api.Slot {
	s := api.Slot{Kind: kind, Sequence: sequence}
	copy(s.Payload[:], payload)
	return s
}

// commit is a commit, in chapter 6's words.
func commit(sequence, many int, first bool) api.Slot {
	if first {
		return record(4, sequence, many, 1)
	}
	return record(4, sequence, many, 0)
}

// all are records of all Kinds, whose payloads begin with n, n + 1 and so on.
func all(sequence, n int) []api.Slot {
	return []api.Slot{record(0, sequence, n), record(1, sequence, n+1), record(2, sequence, n+2), record(3, sequence, n+3)}
}

// begun is a beginning of a group: the records of all and their commit.
func begun(sequence, n int) []api.Slot { return append(all(sequence, n), commit(sequence, 4, true)) }

// spell is the words of slots that are laid down one behind the other.
func spell(l ...api.Slot) []int {
	var words []int
	for _, s := range l {
		own, e := slot.Words(s)
		if e != api.OK {
			panic(e)
		}
		words = append(words, own...)
	}
	return words
}

// blank is the words of so many blank slots.
func blank(many int) []int { return slices.Repeat([]int{65535}, 16*many) }

// torn is a slot that is neither blank nor a record.
func torn() []int { return append(blank(1)[:15:15], 0) }

// found is what is found behind commits, of which the last one has that Sequence; each Kind's payload begins with one of these.
func found(sequence, commits, free int, live ...int) Found {
	f := Found{Has: true, Sequence: sequence, Commits: commits, Free: free}
	for kind, n := range live {
		f.Live[kind][0] = n
	}
	return f
}

// scans wants Scan to find this.
func scans(t *testing.T, want Found, words ...int) {
	t.Helper()
	if got := Scan(words...); got != want {
		t.Fatalf("Scan(%v): %+v, want %+v", words, got, want)
	}
}

// 7.1: Slots

func TestSlots(t *testing.T) {
	for _, x := range []struct{ words, want int }{
		{0, 0}, {1, 0}, {15, 0}, {16, 1}, {17, 1}, {31, 1}, {32, 2}, {33, 2}, {96, 6}, {1024, 64}, {math.MaxInt, math.MaxInt / 16},
		{-1, 0}, {-15, 0}, {-16, 0}, {-17, 0}, {-32, 0}, {math.MinInt, 0},
	} {
		if got := Slots(x.words); got != x.want {
			t.Errorf("Slots(%d): %d, want %d", x.words, got, x.want)
		}
	}
}

// 7.1: Scan, where no commit counts

func TestScanOfNothing(t *testing.T) {
	scans(t, Found{})
	scans(t, Found{}, []int{}...)
	scans(t, Found{}, blank(9)...) // the chapter's example
	for many := range 16 {         // no slot is there yet
		scans(t, Found{}, make([]int, many)...)
		scans(t, Found{}, blank(1)[:many]...)
		scans(t, Found{}, slices.Repeat([]int{-1}, many)...)
	}
}

func TestFree(t *testing.T) {
	for many := 1; many < 9; many++ {
		for at := range many {
			for word := range 16 {
				words := blank(many)
				for _, w := range append([]int{0, 65534, 32767}, noWords...) { // what is no word is not Blank
					words[16*at+word] = w
					scans(t, Found{Free: at + 1}, words...)
				}
			}
		}
	}
	scans(t, Found{Free: 4}, slices.Concat(torn(), blank(2), torn(), blank(3))...)
	scans(t, Found{Free: 3}, slices.Concat(torn(), spell(record(1, 7)), torn())...)
}

// What is left behind the last slot counts for nothing, be it a record's beginning.
func TestScanOfWhatIsLeft(t *testing.T) {
	words := spell(begun(1, 10)...)
	more := spell(record(2, 2, 99), commit(2, 1, false))
	for many := range 16 {
		scans(t, found(1, 1, 5, 10, 11, 12, 13), append(slices.Clone(words), more[:many]...)...)
		scans(t, found(1, 1, 5, 10, 11, 12, 13), append(slices.Clone(words), make([]int, many)...)...)
		scans(t, found(1, 1, 6, 10, 11, 12, 13), slices.Concat(words, more[:16], more[16:16+many])...)
		scans(t, Found{Free: 4}, words[:64+many]...)
		scans(t, Found{}, append(blank(3), words[:many]...)...)
	}
	scans(t, found(2, 2, 7, 10, 11, 99, 13), slices.Concat(words, more)...)
}

// 7.1: the first commit that counts

func TestFirstCommit(t *testing.T) {
	for _, sequence := range []int{0, 1, 65535, 65536, topSequence - 1, topSequence} {
		words := spell(begun(sequence, 20)...)
		want := found(sequence, 1, 5, 20, 21, 22, 23)
		scans(t, want, words...)
		scans(t, want, append(slices.Clone(words), blank(4)...)...)
		for ahead := range 4 { // wherever it lies, and whatever lies ahead of it
			want.Free = 5 + ahead
			scans(t, want, append(blank(ahead), words...)...)
			scans(t, want, append(slices.Repeat(torn(), ahead), words...)...)
			scans(t, want, append(spell(all(sequence, 90)[:ahead]...), words...)...)
		}
	}
}

func TestLiveIsTheWholePayload(t *testing.T) {
	var l []api.Slot
	want := Found{Has: true, Sequence: 3, Commits: 1, Free: 5}
	for kind := range 4 {
		s := record(kind, 3)
		for i := range s.Payload {
			s.Payload[i] = 65535 - 100*kind - i
		}
		want.Live[kind] = s.Payload
		l = append(l, s)
	}
	scans(t, want, spell(append(l, commit(3, 4, true))...)...)
}

// Where none counted yet, a commit that is not told to be the first one, or has not all Kinds, counts for nothing.
func TestNoFirstCommit(t *testing.T) {
	scans(t, Found{Free: 4}, spell(all(5, 1)...)...)
	scans(t, Found{Free: 5}, spell(append(all(5, 1), commit(5, 4, false))...)...)
	for many := 1; many <= 4; many++ {
		for from := 0; from+many <= 4; from++ {
			own := all(5, 1)[from : from+many]
			scans(t, Found{Free: many + 1}, spell(slices.Concat(own, []api.Slot{commit(5, many, false)})...)...)
			if many < 4 {
				scans(t, Found{Free: many + 1}, spell(slices.Concat(own, []api.Slot{commit(5, many, true)})...)...)
			}
		}
	}
	for many := 1; many < 4; many++ { // all Kinds are there, but not all of them are made count
		scans(t, Found{Free: 5}, spell(append(all(5, 1), commit(5, many, true))...)...)
	}
}

// 7.1: commits behind the first one that counts

func TestNextCommit(t *testing.T) {
	words := spell(begun(7, 10)...)
	next := func(want Found, sequence, many int, first bool, l ...api.Slot) {
		t.Helper()
		scans(t, want, slices.Concat(words, spell(l...), spell(commit(sequence, many, first)))...)
	}
	none := func(free int) Found { return found(7, 1, free, 10, 11, 12, 13) }
	next(found(8, 2, 7, 10, 51, 12, 13), 8, 1, false, record(1, 8, 51))
	next(found(8, 2, 8, 50, 11, 12, 53), 8, 2, false, record(0, 8, 50), record(3, 8, 53))
	next(found(8, 2, 9, 10, 51, 52, 53), 8, 3, false, record(1, 8, 51), record(2, 8, 52), record(3, 8, 53))
	next(found(8, 2, 10, 50, 51, 52, 53), 8, 4, false, all(8, 50)...)
	next(found(topSequence, 2, 7, 10, 11, 12, 53), topSequence, 1, false, record(3, topSequence, 53)) // above is enough
	for _, sequence := range []int{0, 6, 7} {
		next(none(7), sequence, 1, false, record(1, sequence, 51))
		next(none(10), sequence, 4, false, all(sequence, 50)...)
	}
	for many := 1; many <= 4; many++ { // told to be the first one, and not the first one that counts
		for _, sequence := range []int{6, 7, 8} {
			next(none(many+6), sequence, many, true, all(sequence, 50)[:many]...)
		}
	}
	next(found(8, 2, 8, 10, 11, 52, 13), 8, 1, false, record(1, 8, 51), record(2, 8, 52)) // the one just ahead of it alone
	next(none(7), 8, 2, false, record(1, 8, 51))                                          // the slot ahead is a commit's
}

// The Sequence has to be above that of the last one that counted, not of the last one that is there.
func TestSequencesOfCommits(t *testing.T) {
	l := slices.Concat(begun(7, 10),
		[]api.Slot{record(0, 20, 1), commit(20, 2, false)}, // counts not, for what lies ahead of it
		[]api.Slot{record(0, 9, 50), commit(9, 1, false)},
		[]api.Slot{record(1, 8, 51), commit(8, 1, false)},
		[]api.Slot{record(2, 9, 52), commit(9, 1, false)},
		[]api.Slot{record(3, 10, 53), commit(10, 1, false)})
	scans(t, found(10, 3, 15, 50, 11, 12, 53), spell(l...)...)
	l = slices.Concat(begun(7, 10), begun(8, 20), begun(3, 30))
	scans(t, found(7, 1, 15, 10, 11, 12, 13), spell(l...)...)
	l = slices.Concat(all(9, 1), []api.Slot{commit(9, 4, false)}, begun(7, 10)) // the first one that counts is not the first one
	scans(t, found(7, 1, 10, 10, 11, 12, 13), spell(l...)...)
}

// The records have to be of rising Kinds below LiveMax, with the commit's own Sequence.
func TestRecordsOfACommit(t *testing.T) {
	words := spell(begun(7, 10)...)
	kinds := func(l ...int) {
		t.Helper()
		var own []api.Slot
		for _, kind := range l {
			own = append(own, record(kind, 8, 50))
		}
		scans(t, found(7, 1, 6+len(l), 10, 11, 12, 13), slices.Concat(words, spell(own...), spell(commit(8, len(l), false)))...)
	}
	kinds(1, 0)
	kinds(1, 1)
	kinds(3, 2)
	kinds(0, 2, 1)
	kinds(0, 1, 1)
	kinds(0, 0, 1)
	kinds(0, 1, 2, 2)
	kinds(3, 2, 1, 0)
	kinds(4)
	kinds(0, 4)
	kinds(2, 3, 4)
	kinds(0, 1, 2, 4)
	kinds(4, 0)
	for at := range 4 {
		for _, sequence := range []int{0, 7, 9, 8 + 65536} {
			l := all(8, 50)
			l[at].Sequence = sequence
			scans(t, found(7, 1, 10, 10, 11, 12, 13), slices.Concat(words, spell(l...), spell(commit(8, 4, false)))...)
			l = begun(8, 50)
			l[at].Sequence = sequence
			scans(t, Found{Free: 5}, spell(l...)...)
		}
		for _, kind := range []int{0, 1, 2, 3, 4} {
			if l := begun(8, 50); l[at].Kind != kind {
				l[at].Kind = kind
				scans(t, Found{Free: 5}, spell(l...)...)
			}
		}
	}
}

// A slot that is torn or blank among the records, or the commit's own, makes it count for nothing.
func TestTornAmongRecords(t *testing.T) {
	for at := range 5 {
		for _, other := range [][]int{torn(), blank(1), make([]int, 16)} {
			words := spell(begun(8, 50)...)
			copy(words[16*at:], other)
			want := Found{Free: 5}
			if at == 4 && slot.Blank(other...) {
				want.Free = 4
			}
			scans(t, want, words...)
			scans(t, want, slices.Concat(spell(begun(8, 50)[:at]...), other, spell(begun(8, 50)[at+1:]...))...)
		}
		words := spell(begun(8, 50)...)
		between := slices.Concat(words[:16*at], torn(), words[16*at:])
		if at == 0 {
			scans(t, found(8, 1, 6, 50, 51, 52, 53), between...)
		} else {
			scans(t, Found{Free: 6}, between...)
		}
	}
	for at := range 80 {
		words := spell(begun(8, 50)...)
		own := words[at]
		for _, w := range append([]int{own ^ 1, own ^ 32768, own + 65536}, noWords...) {
			words[at] = w
			scans(t, Found{Free: 5}, words...)
		}
	}
}

// A commit of more records than there are slots ahead of it counts for nothing, nor does one that is none.
func TestCommitsAtTheFront(t *testing.T) {
	for many := 1; many <= 4; many++ {
		for _, first := range []bool{false, true} {
			for ahead := range many {
				l := slices.Concat(all(5, 1)[4-ahead:], []api.Slot{commit(5, many, first)})
				scans(t, Found{Free: ahead + 1}, spell(l...)...)
			}
		}
	}
	for _, other := range []api.Slot{record(4, 5), record(4, 5, 0, 1), record(4, 5, 5, 1), record(4, 5, 65535, 1), record(4, 5, 4, 2), record(4, 5, 4, 1, 1), record(3, 5, 4, 1)} {
		scans(t, Found{Free: 5}, spell(append(all(5, 1), other)...)...)
	}
}

// Rules: what is handed in is not changed, and what is handed out hangs on none of it.
func TestScanLeavesWords(t *testing.T) {
	words := append(spell(begun(8, 50)...), 1, 2, 3)
	before := slices.Clone(words)
	f := Scan(words...)
	if !slices.Equal(words, before) {
		t.Errorf("the words: %v, want %v", words, before)
	}
	clear(words)
	if f != found(8, 1, 5, 50, 51, 52, 53) {
		t.Errorf("%+v hangs on the words that it was found in", f)
	}
}
