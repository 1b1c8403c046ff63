package slot

import (
	"math/rand"
	"slices"
	"testing"

	"rheostat/api"
)

// 6.3: Words and Read lead back, from records on.
func TestRecordsLeadBack(t *testing.T) {
	r := rand.New(rand.NewSource(2))
	l := records()
	for range 20000 {
		l = append(l, draw(r))
	}
	for _, s := range l {
		words, e := Words(s)
		if e != api.OK || len(words) != 16 {
			t.Fatalf("Words(%v): %v, %v", s, words, e)
		}
		reads(t, s, words...)
	}
}

// 6.3: from words on: what is read of any, laid down again, is these words.
func TestWordsLeadBack(t *testing.T) {
	r := rand.New(rand.NewSource(3))
	read := 0
	for range 20000 {
		words := make([]int, 14)
		for i := range words {
			words[i] = r.Intn(65536)
		}
		words[0] = 23036 + r.Intn(12)
		words = sealed(words...)
		s, e := Read(words...)
		if is := 23040 <= words[0] && words[0] <= 23044; is != (e == api.OK) {
			t.Fatalf("Read(%v): %v", words, e)
		}
		if e == api.OK {
			read++
			laysDown(t, s, words...)
		}
	}
	if read == 0 {
		t.Error("nothing was read")
	}
}

// 6.4: of a record whose first few words alone are there nothing is read, be its sum Blank or not.
func TestBeginnings(t *testing.T) {
	for _, s := range records() {
		for there := range 16 {
			words := spelt(s)
			for i := there; i < 16; i++ {
				words[i] = api.Blank
			}
			unread(t, api.ErrSlot, words...)
			isBlank(t, there == 0, words...)
		}
	}
}

// 6.4: nothing is read, if a word is another one, whichever it is.
func TestOneOtherWord(t *testing.T) {
	r := rand.New(rand.NewSource(4))
	for _, s := range []api.Slot{{Kind: 1, Sequence: 65537}, written(12, 4, true), withSum(draw(r), api.Blank)} {
		words := spelt(s)
		for at, own := range words {
			for w := range 65536 {
				if w == own {
					continue
				}
				words[at] = w
				if got, e := Read(words...); e != api.ErrSlot || got != (api.Slot{}) {
					t.Fatalf("Read(%v): %v, %v", words, got, e)
				}
			}
			words[at] = own
		}
	}
	for _, s := range records() {
		for at := range 16 {
			words := spelt(s)
			words[at] ^= 1 + r.Intn(65535)
			unread(t, api.ErrSlot, words...)
		}
	}
}

// 6.4, as a flash does it: a word that was cut has lost some of its bits alone.
func TestOneWordWithOtherBits(t *testing.T) {
	for _, s := range records() {
		for at := range 16 {
			for bit := range 16 {
				words := spelt(s)
				words[at] ^= 1 << bit
				unread(t, api.ErrSlot, words...)
			}
		}
	}
}

// 6.5: a record's words are not blank.
func TestRecordsAreNotBlank(t *testing.T) {
	full := api.Slot{Kind: 4, Sequence: topSequence, Payload: Payload(slices.Repeat([]int{api.Blank}, 11)...)}
	for _, s := range append(records(), full) {
		words, _ := Words(s)
		isBlank(t, false, words...)
	}
}
