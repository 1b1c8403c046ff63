package crc

import (
	"math"
	"math/rand"
	"slices"
	"testing"

	"rheostat/api"
)

// slow is the sum of words of 16 bits, going on from a sum of 16 bits: the chapter's words, one bit after the other.
func slow(sum int, words ...int) int {
	for _, w := range words {
		sum ^= w
		for range 16 {
			if sum >= 32768 {
				sum = (sum-32768)*2 ^ 4129
			} else {
				sum *= 2
			}
		}
	}
	return sum
}

// draw draws so many words.
func draw(r *rand.Rand, many int) []int {
	l := make([]int, many)
	for i := range l {
		l[i] = r.Intn(65536)
	}
	return l
}

// sums holds a sum against the one that is asked for.
func sums(t *testing.T, what string, got, want int) {
	t.Helper()
	if got != want {
		t.Errorf("%s: %d, want %d", what, got, want)
	}
}

// beyond are numbers that are no words, each with its lowest 16 bits.
var beyond = [][2]int{
	{-1, 65535}, {-2, 65534}, {-65535, 1}, {-65536, 0}, {-65537, 65535}, {65536, 0}, {65537, 1}, {131071, 65535},
	{math.MaxInt, 65535}, {math.MaxInt - 1, 65534}, {math.MinInt, 0}, {math.MinInt + 7, 7}, {1<<40 + 12594, 12594},
}

// 2.1: Of and On

func TestExamples(t *testing.T) {
	sums(t, "Of the bytes 12345678", Of(12594, 13108, 13622, 14136), 41259)
	sums(t, "Of nothing", Of(), 65535)
	sums(t, "Of nothing", Of([]int{}...), 65535)
}

func TestOfIsTheChapters(t *testing.T) {
	for w := range 65536 {
		if got, want := Of(w), slow(65535, w); got != want {
			t.Fatalf("Of(%d): %d, want %d", w, got, want)
		}
	}
	r := rand.New(rand.NewSource(1))
	for many := range 300 {
		l := draw(r, many)
		sums(t, "Of", Of(l...), slow(65535, l...))
	}
}

func TestOnIsTheChapters(t *testing.T) {
	r := rand.New(rand.NewSource(2))
	for sum := range 65536 {
		l := draw(r, sum%5)
		if got, want := On(sum, l...), slow(sum, l...); got != want {
			t.Fatalf("On(%d, %v): %d, want %d", sum, l, got, want)
		}
		sums(t, "On nothing", On(sum), sum)
	}
}

func TestLowestBitsCount(t *testing.T) {
	for _, b := range beyond {
		sums(t, "Of", Of(b[0]), Of(b[1]))
		sums(t, "Of, in the midst", Of(5, b[0], 7), Of(5, b[1], 7))
		sums(t, "On, of the words", On(99, b[0], b[0]), On(99, b[1], b[1]))
		sums(t, "On, of the sum", On(b[0], 3, 4), On(b[1], 3, 4))
		sums(t, "On, of nothing", On(b[0]), b[1])
	}
}

func TestManyWords(t *testing.T) {
	l := draw(rand.New(rand.NewSource(3)), 100000)
	sums(t, "Of", Of(l...), slow(65535, l...))
}

// 2.2: Turned

func TestTurnedIsOfTurnedWords(t *testing.T) {
	r := rand.New(rand.NewSource(4))
	for _, size := range []int{1, 2, 3, 14, 16, 255, 256} {
		l := draw(r, size)
		sum := Of(l...)
		for at := range size {
			for bit := range 16 {
				turned := slices.Clone(l)
				turned[at] ^= 1 << bit
				got, e := Turned(sum, size, at, bit)
				if want := slow(65535, turned...); e != api.OK || got != want {
					t.Fatalf("Turned(%d, %d, %d, %d): %d, %v, want %d", sum, size, at, bit, got, e, want)
				}
			}
		}
	}
}

func TestTurnedTwiceLeadsBack(t *testing.T) {
	for sum := range 65536 {
		once, _ := Turned(sum, 5, sum%5, sum%16)
		twice, _ := Turned(once, 5, sum%5, sum%16)
		if once == sum || twice != sum {
			t.Fatalf("Turned of %d: %d, then %d", sum, once, twice)
		}
	}
}

func TestTurnedLowestBitsCount(t *testing.T) {
	for _, b := range beyond {
		got, e := Turned(b[0], 9, 4, 11)
		want, f := Turned(b[1], 9, 4, 11)
		if got != want || e != api.OK || f != api.OK {
			t.Errorf("Turned of %d: %d, %v, want %d, %v", b[0], got, e, want, f)
		}
	}
}

func TestTurnedRefuses(t *testing.T) {
	wrong := [][3]int{
		{0, 0, 0}, {-1, 0, 0}, {0, -1, 0}, {257, 0, 0}, {257, 256, 15}, {math.MinInt, 0, 0}, {math.MaxInt, 0, 0}, {math.MaxInt, math.MaxInt - 1, 0},
		{3, -1, 0}, {3, 3, 0}, {3, 4, 0}, {1, 1, 0}, {256, 256, 0}, {3, math.MinInt, 0}, {3, math.MaxInt, 0},
		{3, 0, -1}, {3, 0, 16}, {3, 2, math.MinInt}, {3, 2, math.MaxInt}, {3, 2, 64}, {math.MinInt, math.MinInt, math.MinInt},
	}
	for _, w := range wrong {
		for _, sum := range []int{0, 65535, -1, math.MaxInt} {
			if got, e := Turned(sum, w[0], w[1], w[2]); got != 0 || e != api.ErrArg {
				t.Errorf("Turned(%d, %v): %d, %v", sum, w, got, e)
			}
		}
	}
}

// 2.3: Right

// right holds Right's answer against the one that is asked for.
func right(t *testing.T, want bool, words ...int) {
	t.Helper()
	if Right(words...) != want {
		t.Errorf("Right(%v): %t", words, !want)
	}
}

func TestRight(t *testing.T) {
	right(t, false)
	right(t, false, []int{}...)
	right(t, true, 65535) // the sum of none
	right(t, false, 0)
	right(t, true, 12594, 13108, 13622, 14136, 41259)
	right(t, false, 12594, 13108, 13622, 14136, 41258)
	right(t, false, 41259, 12594, 13108, 13622, 14136)
	right(t, false, 12594, 13108, 13622, 14136, 0) // the sum on from 0 of all is not asked
	for _, b := range beyond {
		right(t, true, 4, b[0], 6, Of(4, b[1], 6))
	}
}

func TestRightHasOneLastWord(t *testing.T) {
	for _, l := range [][]int{{}, {0}, {1, 2}, {65535, -9, 1 << 20}} {
		for last := range 65536 {
			if got, want := Right(append(slices.Clone(l), last)...), last == Of(l...); got != want {
				t.Fatalf("Right of %v, %d: %t", l, last, got)
			}
		}
	}
}

func TestRightTakesTheLastAsItIs(t *testing.T) {
	for _, b := range beyond {
		right(t, false, b[0])
		sum := Of(1, 2)
		right(t, false, 1, 2, b[0]-b[1]+sum) // the sum in its lowest 16 bits, others above
	}
}

// Rules: what is handed in is not changed.

func TestWordsStayAsTheyAre(t *testing.T) {
	all := []int{-1, 70000, 3, 65536 + 9, 5}
	words, before := all[:4], slices.Clone(all)
	Of(words...)
	On(-8, words...)
	Right(words...)
	if !slices.Equal(all, before) {
		t.Errorf("the words: %v, want %v", all, before)
	}
}
