package slot

import (
	"math"
	"math/rand"
	"slices"
	"testing"

	"rheostat/api"
)

// topSequence is the greatest Sequence.
const topSequence = 4294967295

// sequences are Sequences, the ends of both words among them.
var sequences = []int{0, 1, 2, 65534, 65535, 65536, 65537, 131071, 131072, 2147483647, 2147483648, 4294901760, 4294967294, topSequence}

// noSequences are numbers that are no Sequences.
var noSequences = []int{-1, -2, -65536, math.MinInt, math.MinInt + 1, 4294967296, 4294967297, 1 << 48, math.MaxInt}

// noKinds are numbers that are no Kinds.
var noKinds = []int{-1, -2, -256, -23040, math.MinInt, 5, 6, 256, 65536, 65541, math.MaxInt}

// wordEdges are words, the ends of all and some parts of records among them.
var wordEdges = []int{0, 1, 2, 255, 256, 21930, 23040, 23044, 32767, 32768, 65534, 65535}

// noWords are numbers that are no words.
var noWords = []int{-1, -2, -65535, -65536, math.MinInt, 65536, 65537, 131071, math.MaxInt}

// summed is the sum of words: chapter 2's words, one bit after the other.
func summed(words []int) int {
	sum := 65535
	for _, w := range words {
		sum ^= w & 65535
		for range 16 {
			if sum >= 32768 {
				sum = (sum-32768)*2 ^ 4129
			} else {
				sum *= 2
			}
		}
	}
	return sum
}

// sealed is fourteen words with their sum and the mark behind them.
func sealed(words ...int) []int { return append(slices.Clone(words), summed(words), 21930) }

// spelt is a record's words, in the chapter's words.
func spelt(s api.Slot) []int {
	words := []int{23040 + s.Kind, s.Sequence / 65536, s.Sequence % 65536}
	return sealed(append(words, s.Payload[:]...)...)
}

// draw draws a record, with ends among its numbers.
func draw(r *rand.Rand) api.Slot {
	s := api.Slot{Kind: r.Intn(5), Sequence: r.Intn(topSequence + 1)}
	if r.Intn(2) == 0 {
		s.Sequence = sequences[r.Intn(len(sequences))]
	}
	for i := range s.Payload {
		s.Payload[i] = r.Intn(65536)
		if r.Intn(2) == 0 {
			s.Payload[i] = wordEdges[r.Intn(len(wordEdges))]
		}
	}
	return s
}

// records are records of all Kinds: plain ones, drawn ones, commits, and some whose sum is Blank or 0.
func records() []api.Slot {
	r := rand.New(rand.NewSource(1))
	var l []api.Slot
	for kind := range 5 {
		l = append(l, api.Slot{Kind: kind}, withSum(api.Slot{Kind: kind, Sequence: 9}, api.Blank), withSum(draw(r), 0))
		for _, n := range sequences {
			l = append(l, api.Slot{Kind: kind, Sequence: n, Payload: Payload(1, 1)})
		}
	}
	for range 300 {
		l = append(l, draw(r))
	}
	return l
}

// withSum is a record like s whose words have this sum: of all last words of a payload just one leads to it.
func withSum(s api.Slot, sum int) api.Slot {
	for w := range 65536 {
		s.Payload[10] = w
		if spelt(s)[14] == sum {
			break
		}
	}
	return s
}

// reads wants Read to tell this record.
func reads(t *testing.T, want api.Slot, words ...int) {
	t.Helper()
	if got, e := Read(words...); e != api.OK || got != want {
		t.Fatalf("Read(%v): %v, %v, want %v", words, got, e, want)
	}
}

// unread wants Read to tell this error, and no record.
func unread(t *testing.T, want api.Errno, words ...int) {
	t.Helper()
	if got, e := Read(words...); e != want || got != (api.Slot{}) {
		t.Fatalf("Read(%v): %v, %v, want %v", words, got, e, want)
	}
}

// laysDown wants Words to tell these words.
func laysDown(t *testing.T, s api.Slot, want ...int) {
	t.Helper()
	if got, e := Words(s); e != api.OK || !slices.Equal(got, want) {
		t.Fatalf("Words(%v): %v, %v, want %v", s, got, e, want)
	}
}

// refuses wants Words to tell ErrArg, and no words.
func refuses(t *testing.T, s api.Slot) {
	t.Helper()
	if got, e := Words(s); e != api.ErrArg || len(got) != 0 {
		t.Fatalf("Words(%v): %v, %v", s, got, e)
	}
}

// 6.1: Words

func TestExample(t *testing.T) {
	laysDown(t, api.Slot{Kind: 1, Sequence: 65537}, 23041, 1, 1, 0, 0, 0, 0, 0, 0, 0, 0, 0, 0, 0, summed([]int{23041, 1, 1, 13: 0}), 21930)
}

func TestWords(t *testing.T) {
	s := api.Slot{Kind: 4, Sequence: 0x12345678, Payload: [11]int{1, 2, 3, 4, 5, 6, 7, 8, 9, 10, 65535}}
	laysDown(t, s, sealed(23044, 0x1234, 0x5678, 1, 2, 3, 4, 5, 6, 7, 8, 9, 10, 65535)...)
	laysDown(t, api.Slot{}, sealed(23040, 0, 0, 0, 0, 0, 0, 0, 0, 0, 0, 0, 0, 0)...)
	laysDown(t, api.Slot{Sequence: topSequence}, sealed(23040, 65535, 65535, 0, 0, 0, 0, 0, 0, 0, 0, 0, 0, 0)...)
	laysDown(t, api.Slot{Sequence: 65535}, sealed(23040, 0, 65535, 0, 0, 0, 0, 0, 0, 0, 0, 0, 0, 0)...)
	for _, s := range records() {
		laysDown(t, s, spelt(s)...)
	}
}

func TestWordsRefuses(t *testing.T) {
	for _, s := range records() {
		for _, kind := range noKinds {
			other := s
			other.Kind = kind
			refuses(t, other)
		}
		for _, n := range noSequences {
			other := s
			other.Sequence = n
			refuses(t, other)
		}
		for i := range s.Payload {
			for _, w := range noWords {
				other := s
				other.Payload[i] = w
				refuses(t, other)
			}
		}
	}
}

// 6.1: Read

func TestRead(t *testing.T) {
	s := api.Slot{Kind: 4, Sequence: 0x12345678, Payload: [11]int{1, 2, 3, 4, 5, 6, 7, 8, 9, 10, 65535}}
	reads(t, s, sealed(23044, 0x1234, 0x5678, 1, 2, 3, 4, 5, 6, 7, 8, 9, 10, 65535)...)
	for _, s := range records() {
		reads(t, s, spelt(s)...)
	}
}

// P1: how many words there are comes first, whatever they are.
func TestReadRefusesOtherCounts(t *testing.T) {
	unread(t, api.ErrArg)
	unread(t, api.ErrArg, []int{}...)
	words := spelt(api.Slot{Kind: 2, Sequence: 7, Payload: Payload(1, 2, 3)})
	for many := range 100 {
		if many == 16 {
			continue
		}
		unread(t, api.ErrArg, make([]int, many)...)
		unread(t, api.ErrArg, slices.Repeat([]int{api.Blank}, many)...)
		unread(t, api.ErrArg, slices.Repeat([]int{-1}, many)...)
		unread(t, api.ErrArg, slices.Repeat(words, 7)[:many]...)
	}
}

func TestReadRefusesWhatIsNoRecord(t *testing.T) {
	for _, w := range append(slices.Clone(wordEdges), noWords...) {
		unread(t, api.ErrSlot, slices.Repeat([]int{w}, 16)...)
	}
	for _, s := range records() {
		body := spelt(s)[:14]
		for _, first := range []int{0, 1, s.Kind, 23039, 23045, 23046, 23296, 22784, 65535} { // all else is right, the sum too
			unread(t, api.ErrSlot, sealed(append([]int{first}, body[1:]...)...)...)
		}
		for at := range 16 {
			for _, w := range noWords {
				words := spelt(s)
				words[at] = w
				unread(t, api.ErrSlot, words...)
				if at < 14 { // and with the sum of what stands there
					words[14] = summed(words[:14])
					unread(t, api.ErrSlot, words...)
				}
			}
		}
	}
}

// A word's lowest 16 bits alone would do for the sum, but not for a record.
func TestReadTakesWordsAsTheyAre(t *testing.T) {
	for _, s := range records() {
		for at := range 16 {
			for _, more := range []int{65536, -65536, 1 << 32, 1 << 62, math.MinInt} {
				words := spelt(s)
				words[at] += more
				unread(t, api.ErrSlot, words...) // its sum is right as it is
			}
		}
	}
}

// 6.1: Blank

// isBlank holds Blank's answer against the one that is asked for.
func isBlank(t *testing.T, want bool, words ...int) {
	t.Helper()
	if Blank(words...) != want {
		t.Fatalf("Blank(%v): %t", words, !want)
	}
}

func TestBlank(t *testing.T) {
	isBlank(t, false)
	isBlank(t, false, []int{}...)
	for many := 1; many <= 40; many++ {
		words := slices.Repeat([]int{65535}, many)
		isBlank(t, true, words...)
		for at := range words {
			for _, w := range []int{0, 65534, 32767, 65536, -1, 131071, math.MinInt, math.MaxInt} {
				words[at] = w
				isBlank(t, false, words...)
			}
			words[at] = 65535
		}
	}
	isBlank(t, true, slices.Repeat([]int{65535}, 100000)...) // no bound is named
}

// 6.2: Payload

func TestPayload(t *testing.T) {
	for _, x := range []struct {
		l    []int
		want [11]int
	}{
		{nil, [11]int{}}, {[]int{}, [11]int{}}, {[]int{7}, [11]int{7}}, {[]int{7, 8}, [11]int{7, 8}},
		{[]int{1, 2, 3, 4, 5, 6, 7, 8, 9, 10}, [11]int{1, 2, 3, 4, 5, 6, 7, 8, 9, 10}},
		{[]int{1, 2, 3, 4, 5, 6, 7, 8, 9, 10, 11}, [11]int{1, 2, 3, 4, 5, 6, 7, 8, 9, 10, 11}},
		{[]int{1, 2, 3, 4, 5, 6, 7, 8, 9, 10, 11, 12, 13}, [11]int{1, 2, 3, 4, 5, 6, 7, 8, 9, 10, 11}},
		{[]int{-1, 65536, math.MinInt, math.MaxInt}, [11]int{-1, 65536, math.MinInt, math.MaxInt}}, // it tells no error
	} {
		if got := Payload(x.l...); got != x.want {
			t.Errorf("Payload(%v): %v, want %v", x.l, got, x.want)
		}
	}
}

// Rules: what is handed in is not changed, and what is handed out is the caller's own.

func TestHandedInAndOut(t *testing.T) {
	s := api.Slot{Kind: 3, Sequence: 77, Payload: Payload(5, 6)}
	words, _ := Words(s)
	clear(words)
	laysDown(t, s, spelt(s)...)
	all := append(spelt(s), 1, 2, 3)
	own, before := all[:16], slices.Clone(all)
	got, _ := Read(own...)
	Read(own[:15]...)
	Blank(own...)
	p := Payload(own...)
	if !slices.Equal(all, before) {
		t.Errorf("the words: %v, want %v", all, before)
	}
	clear(all)
	if got != s || p != Payload(before...) {
		t.Errorf("%v and %v hang on the words that they came from", got, p)
	}
}
