package wear

import (
	"math"
	"math/big"
	"math/rand"
	"testing"

	"rheostat/api"
)

// turns wants the n-th group behind a group to be this one.
func turns(t *testing.T, want, groups, g, n int) {
	t.Helper()
	if got, e := Turn(groups, g, n); e != api.OK || got != want {
		t.Fatalf("Turn(%d, %d, %d): %d, %v, want %d", groups, g, n, got, e, want)
	}
}

// follows wants the group behind a group to be this one.
func follows(t *testing.T, want, groups, g int) {
	t.Helper()
	if got, e := Next(groups, g); e != api.OK || got != want {
		t.Fatalf("Next(%d, %d): %d, %v, want %d", groups, g, got, e, want)
	}
}

// 8.1: Next and Turn

func TestNext(t *testing.T) {
	follows(t, 0, 3, 2)                       // the chapter's example
	for groups := 1; groups <= 20; groups++ { // more than a flash has, too
		for g := range groups - 1 {
			follows(t, g+1, groups, g)
		}
		follows(t, 0, groups, groups-1)
	}
	follows(t, math.MaxInt-1, math.MaxInt, math.MaxInt-2)
	follows(t, 0, math.MaxInt, math.MaxInt-1)
}

func TestTurn(t *testing.T) {
	for groups := 1; groups <= 20; groups++ {
		for g := range groups {
			want := g
			for n := range 70 {
				turns(t, want, groups, g, n)
				want++
				if want == groups {
					want = 0
				}
			}
		}
	}
}

// However far it is, and though the group and n together are no number.
func TestTurnFar(t *testing.T) {
	turns(t, math.MaxInt-2, math.MaxInt, math.MaxInt-1, math.MaxInt-1)
	turns(t, math.MaxInt-1, math.MaxInt, math.MaxInt-1, math.MaxInt)
	turns(t, math.MaxInt-2, math.MaxInt-1, math.MaxInt-2, math.MaxInt-1)
	turns(t, 0, 1, 0, math.MaxInt)
	r := rand.New(rand.NewSource(1))
	for range 20000 {
		groups := 1 + r.Int()>>r.Intn(63)
		g, n := r.Intn(groups), r.Int()>>r.Intn(63)
		if r.Intn(2) == 0 {
			g, n = groups-1-g>>r.Intn(63), math.MaxInt-n
		}
		want := big.NewInt(int64(g))
		want.Add(want, big.NewInt(int64(n))).Mod(want, big.NewInt(int64(groups)))
		turns(t, int(want.Int64()), groups, g, n)
	}
}

func TestTurnsRefuse(t *testing.T) {
	refused := func(groups, g, n int) {
		t.Helper()
		if got, e := Turn(groups, g, n); e != api.ErrArg || got != 0 {
			t.Errorf("Turn(%d, %d, %d): %d, %v", groups, g, n, got, e)
		}
	}
	noGroups := func(groups, g int) {
		t.Helper()
		if got, e := Next(groups, g); e != api.ErrArg || got != 0 {
			t.Errorf("Next(%d, %d): %d, %v", groups, g, got, e)
		}
		for _, n := range []int{0, 1, 2, math.MaxInt, -1, math.MinInt} {
			refused(groups, g, n)
		}
	}
	for _, groups := range []int{0, -1, -2, math.MinInt, math.MinInt + 1} {
		for _, g := range []int{0, 1, -1, -2, math.MinInt, math.MaxInt} {
			noGroups(groups, g)
		}
	}
	for _, groups := range []int{1, 2, 3, 8, 9, math.MaxInt} {
		for _, g := range []int{-1, -2, math.MinInt, groups, math.MaxInt} {
			noGroups(groups, g)
		}
		for _, n := range []int{-1, -2, -groups, math.MinInt} {
			refused(groups, 0, n)
			refused(groups, groups-1, n)
		}
	}
	noGroups(3, 4)
}
