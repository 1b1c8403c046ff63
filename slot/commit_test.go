package slot

import (
	"math"
	"testing"

	"rheostat/api"
)

// noCounts are numbers of records that no commit makes count.
var noCounts = []int{0, -1, -2, math.MinInt, 5, 6, 65536, 65537, math.MaxInt}

// told is what IsCommit tells.
type told struct {
	many      int
	first, is bool
}

// tells holds what IsCommit tells against what is asked for.
func tells(t *testing.T, s api.Slot, want told) {
	t.Helper()
	many, first, is := IsCommit(s)
	if got := (told{many, first, is}); got != want {
		t.Fatalf("IsCommit(%v): %v, want %v", s, got, want)
	}
}

// written is a commit, in the chapter's words.
func written(sequence, many int, first bool) api.Slot {
	s := api.Slot{Kind: 4, Sequence: sequence, Payload: [11]int{many}}
	if first {
		s.Payload[1] = 1
	}
	return s
}

// 6.2: Commit and IsCommit

func TestCommit(t *testing.T) {
	for _, sequence := range sequences {
		for many := 1; many <= 4; many++ {
			for _, first := range []bool{false, true} {
				want := written(sequence, many, first)
				if got, e := Commit(sequence, many, first); e != api.OK || got != want {
					t.Fatalf("Commit(%d, %d, %t): %v, %v, want %v", sequence, many, first, got, e, want)
				}
				tells(t, want, told{many, first, true})
				reads(t, want, spelt(want)...)
			}
		}
	}
}

func TestCommitRefuses(t *testing.T) {
	refused := func(sequence, many int) {
		t.Helper()
		for _, first := range []bool{false, true} {
			if got, e := Commit(sequence, many, first); e != api.ErrArg || got != (api.Slot{}) {
				t.Fatalf("Commit(%d, %d, %t): %v, %v", sequence, many, first, got, e)
			}
		}
	}
	for _, many := range noCounts {
		for _, sequence := range sequences {
			refused(sequence, many)
		}
	}
	for _, sequence := range noSequences {
		for many := range 6 {
			refused(sequence, many)
		}
	}
}

func TestIsCommitOfOthers(t *testing.T) {
	tells(t, api.Slot{}, told{})
	tells(t, api.Slot{Kind: 4}, told{})
	for _, sequence := range sequences {
		for many := 1; many <= 4; many++ {
			for _, first := range []bool{false, true} {
				c := written(sequence, many, first)
				for _, kind := range append([]int{0, 1, 2, 3}, noKinds...) {
					other := c
					other.Kind = kind
					tells(t, other, told{})
				}
				for _, n := range noCounts {
					other := c
					other.Payload[0] = n
					tells(t, other, told{})
				}
				for _, n := range []int{-1, 2, 65535, 65536, 65537, math.MinInt, math.MaxInt} {
					other := c
					other.Payload[1] = n
					tells(t, other, told{})
				}
				for at := 2; at < 11; at++ {
					for _, n := range []int{-1, 1, 65535, 65536, math.MinInt} {
						other := c
						other.Payload[at] = n
						tells(t, other, told{})
					}
				}
				for _, n := range noSequences {
					other := c
					other.Sequence = n
					tells(t, other, told{})
				}
			}
		}
	}
}

// A record of a commit's Kind is a record, whether it is a commit or not.
func TestRecordOfACommitsKind(t *testing.T) {
	s := api.Slot{Kind: 4, Sequence: 3, Payload: Payload(9, 9, 9)}
	laysDown(t, s, spelt(s)...)
	reads(t, s, spelt(s)...)
	tells(t, s, told{})
}
