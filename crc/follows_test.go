package crc

import (
	"math/rand"
	"slices"
	"testing"
)

// 2.4: going on by pieces is as at once.
func TestPieces(t *testing.T) {
	r := rand.New(rand.NewSource(5))
	for many := range 40 {
		l := draw(r, many)
		l = append(l, -r.Intn(1<<30), r.Intn(1<<30))
		for cut := range len(l) + 1 {
			sums(t, "Of, in two", On(Of(l[:cut]...), l[cut:]...), Of(l...))
			sums(t, "On, in two", On(On(many, l[:cut]...), l[cut:]...), On(many, l...))
		}
		sum := Of()
		for _, w := range l {
			sum = On(sum, w)
		}
		sums(t, "Of, one by one", sum, Of(l...))
	}
}

// 2.5: words that differ in one word have other sums.
func TestOneWordIsFound(t *testing.T) {
	r := rand.New(rand.NewSource(6))
	for _, many := range []int{1, 2, 14} {
		for at := range many {
			l := draw(r, many)
			sum, word := Of(l...), l[at]
			for w := range 65536 {
				l[at] = w
				if (Of(l...) == sum) != (w == word) {
					t.Fatalf("of %d words, that at %d as %d and as %d", many, at, word, w)
				}
			}
		}
	}
}

// 2.5: words that differ within sixteen bits one behind the other, which may lie in two words, have other sums.
func TestSixteenBitsAreFound(t *testing.T) {
	r := rand.New(rand.NewSource(7))
	for from := range 33 {
		l := draw(r, 3)
		sum := Of(l...)
		for turned := 1; turned < 65536; turned++ {
			all := turned << (32 - from) // of the 48 bits, the highest of the first word first
			if Of(l[0]^all>>32, l[1]^all>>16&65535, l[2]^all&65535) == sum {
				t.Fatalf("%v, with %d turned over %d bits below the highest", l, turned, from)
			}
		}
	}
}

// 2.6: words with their sum behind are right; their sum on from 65535 is 0.
func TestSumBehind(t *testing.T) {
	r := rand.New(rand.NewSource(8))
	for many := range 200 {
		l := draw(r, many)
		with := append(slices.Clone(l), Of(l...))
		right(t, true, with...)
		sums(t, "Of words with their sum", Of(with...), 0)
		sums(t, "On from 65535", On(65535, with...), 0)
	}
	right(t, true, -1, 1<<33, Of(-1, 1<<33))
	sums(t, "Of words with their sum, of the lowest bits", Of(-1, 1<<33, Of(-1, 1<<33)), 0)
}
