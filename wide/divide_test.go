package wide

import (
	"math"
	"math/big"
	"math/rand"
	"testing"

	"rheostat/api"
)

// told is what a call told.
type told struct {
	n int
	e api.Errno
}

// tell makes an answer of what a call told.
func tell(n int, e api.Errno) told { return told{n, e} }

// tellWhole makes an answer of what comes.
func tellWhole(n *big.Int) told {
	if !n.IsInt64() {
		return told{0, api.ErrLong}
	}
	return told{int(n.Int64()), api.OK}
}

// divided is n by c, rounded down and near, in the chapter's words.
func divided(n *big.Int, c int) (down, near told) {
	below, left := new(big.Int).DivMod(n, big.NewInt(int64(c)), new(big.Int)) // left is never below 0
	above := new(big.Int).Add(below, big.NewInt(1))
	nearest := below
	switch half := left.Lsh(left, 1).Cmp(big.NewInt(int64(c))); {
	case half > 0:
		nearest = above
	case half == 0 && above.CmpAbs(below) > 0:
		nearest = above
	}
	return tellWhole(below), tellWhole(nearest)
}

// divides holds what is told of n by c against the chapter.
func divides(t *testing.T, n Number, c int) {
	t.Helper()
	down, near := divided(whole(n), c)
	alike(t, "Down", tell(Down(n, c)), down, n, c)
	alike(t, "Near", tell(Near(n, c)), near, n, c)
}

// mulDivides holds what is told of a times b by c against the chapter.
func mulDivides(t *testing.T, a, b, c int) {
	t.Helper()
	down, near := divided(product(a, b), c)
	alike(t, "MulDown", tell(MulDown(a, b, c)), down, a, b, c)
	alike(t, "MulNear", tell(MulNear(a, b, c)), near, a, b, c)
}

// 4.2: Down, Near, MulDown and MulNear

func TestDivision(t *testing.T) {
	for _, x := range [][4]int{
		{0, 1, 0, 0}, {0, 9, 0, 0}, {6, 3, 2, 2}, {-6, 3, -2, -2}, {5, 1, 5, 5}, {-5, 1, -5, -5},
		{1, 2, 0, 1}, {-1, 2, -1, -1}, {3, 2, 1, 2}, {-3, 2, -2, -2}, {6, 4, 1, 2}, {-6, 4, -2, -2}, // just a half
		{7, 3, 2, 2}, {8, 3, 2, 3}, {-7, 3, -3, -2}, {-8, 3, -3, -3}, {4, 9, 0, 0}, {5, 9, 0, 1}, {-4, 9, -1, 0}, {-5, 9, -1, -1},
		{math.MaxInt, 1, math.MaxInt, math.MaxInt}, {math.MinInt, 1, math.MinInt, math.MinInt},
		{math.MaxInt, math.MaxInt, 1, 1}, {math.MinInt, math.MaxInt, -2, -1}, {-1, math.MaxInt, -1, 0}, {1, math.MaxInt, 0, 0},
		{1 << 62, math.MaxInt, 0, 1}, {1<<62 - 1, math.MaxInt, 0, 0}, {-1 << 62, math.MaxInt, -1, -1}, {-1<<62 + 1, math.MaxInt, -1, 0},
		{1 << 61, 1 << 62, 0, 1}, {-1 << 61, 1 << 62, -1, -1}, {-1<<61 + 1, 1 << 62, -1, 0},
	} {
		alike(t, "Down", tell(Down(Of(x[0]), x[1])), told{x[2], api.OK}, x[0], x[1])
		alike(t, "Near", tell(Near(Of(x[0]), x[1])), told{x[3], api.OK}, x[0], x[1])
		divides(t, Of(x[0]), x[1])
	}
}

func TestMulDivision(t *testing.T) {
	for _, x := range [][5]int{
		{10000, 3, 7, 4285, 4286}, {-10000, 3, 7, -4286, -4286}, {10000, -3, 7, -4286, -4286}, {-10000, -3, 7, 4285, 4286},
		{math.MinInt, 1 << 62, 1 << 62, math.MinInt, math.MinInt}, {math.MaxInt, math.MaxInt, math.MaxInt, math.MaxInt, math.MaxInt}, {math.MinInt, math.MaxInt, math.MaxInt, math.MinInt, math.MinInt},
		{math.MaxInt, math.MaxInt - 1, math.MaxInt, math.MaxInt - 1, math.MaxInt - 1}, {1 << 62, 3, 2, 3 << 61, 3 << 61}, {0, math.MinInt, 1, 0, 0},
		{5, 5, 10, 2, 3}, {-5, 5, 10, -3, -3}, {5, 5, 9, 2, 3}, {-5, 5, 9, -3, -3},
	} {
		alike(t, "MulDown", tell(MulDown(x[0], x[1], x[2])), told{x[3], api.OK}, x[:3])
		alike(t, "MulNear", tell(MulNear(x[0], x[1], x[2])), told{x[4], api.OK}, x[:3])
	}
}

func TestDivisionIsTheChapters(t *testing.T) {
	for n := -200; n <= 200; n++ {
		for c := 1; c <= 24; c++ {
			divides(t, Of(n), c)
		}
	}
	for _, c := range divisors() {
		for _, n := range wideEdges() {
			divides(t, n, c)
		}
	}
	r := rand.New(rand.NewSource(4))
	for range 50000 {
		divides(t, drawWide(r), drawDivisor(r))
	}
}

func TestMulDivisionIsTheChapters(t *testing.T) {
	for _, a := range edges() {
		for _, b := range edges() {
			for _, c := range divisors() {
				mulDivides(t, a, b, c)
			}
		}
	}
	r := rand.New(rand.NewSource(5))
	for range 50000 {
		mulDivides(t, draw(r), draw(r), drawDivisor(r))
	}
}

// What comes is a number as far as both ends, and none beyond: that is asked of what is rounded, as what is below it may be none.
func TestDivisionAboutTheEnds(t *testing.T) {
	for _, c := range divisors() {
		half := c / 2
		for _, end := range []Number{Mul(math.MinInt, c), Mul(math.MaxInt, c)} {
			for _, off := range []int{0, 1, 2, c - 1, c, half - 1, half, half + 1} {
				divides(t, Add(end, Of(off)), c)
				divides(t, Add(end, Of(-off)), c)
			}
		}
	}
}

func TestLong(t *testing.T) {
	no, low, high := told{0, api.ErrLong}, told{math.MinInt, api.OK}, told{math.MaxInt, api.OK}
	for _, x := range []struct {
		n          Number
		c          int
		down, near told
	}{
		{lowest, 1, no, no}, {highest, 1, no, no}, {lowest, math.MaxInt, no, no}, {highest, math.MaxInt, no, no},
		{Number{Low: 1 << 63}, 1, no, no}, {Number{High: -1, Low: 1<<63 - 1}, 1, no, no}, {Number{High: 1}, 1, no, no}, {Number{High: -1}, 1, no, no}, {Number{High: 1, Low: 1<<63 - 1}, 1, no, no},
		{Number{High: 1}, 2, no, no}, {Number{High: -1}, 2, low, low}, {Number{Low: math.MaxUint}, 2, high, no}, // 2^63 less a half
		{Add(Mul(math.MaxInt, 3), Of(1)), 3, high, high}, {Add(Mul(math.MaxInt, 3), Of(2)), 3, high, no}, {Add(Mul(math.MaxInt, 3), Of(3)), 3, no, no},
		{Add(Mul(math.MinInt, 3), Of(-1)), 3, no, low}, {Add(Mul(math.MinInt, 3), Of(-2)), 3, no, no}, {Add(Mul(math.MinInt, 2), Of(-1)), 2, no, no},
	} {
		alike(t, "Down", tell(Down(x.n, x.c)), x.down, x.n, x.c)
		alike(t, "Near", tell(Near(x.n, x.c)), x.near, x.n, x.c)
	}
	for _, x := range [][3]int{{1 << 62, 4, 1}, {1 << 62, 2, 1}, {math.MinInt, -1, 1}, {math.MinInt, math.MinInt, math.MaxInt}, {math.MinInt, 2, 1}, {math.MinInt, 3, 2}} {
		alike(t, "MulDown", tell(MulDown(x[0], x[1], x[2])), no, x)
		alike(t, "MulNear", tell(MulNear(x[0], x[1], x[2])), no, x)
	}
}

// P1: a divisor that may not be is told ahead of what is no number.
func TestDivisionRefuses(t *testing.T) {
	no := told{0, api.ErrArg}
	for _, c := range edges() {
		if c > 0 {
			continue
		}
		for _, n := range wideEdges() {
			alike(t, "Down", tell(Down(n, c)), no, n, c)
			alike(t, "Near", tell(Near(n, c)), no, n, c)
		}
		for _, a := range edges() {
			for _, b := range edges() {
				alike(t, "MulDown", tell(MulDown(a, b, c)), no, a, b, c)
				alike(t, "MulNear", tell(MulNear(a, b, c)), no, a, b, c)
			}
		}
	}
}
