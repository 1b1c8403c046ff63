package fx

import (
	"math"
	"math/big"
	"math/rand"
	"testing"

	"rheostat/api"
)

// divided is a by b, rounded down, near and even, and what is left, in the chapter's words.
func divided(t *testing.T, a, b int) (down, near, even, left int) {
	t.Helper()
	below, rest := new(big.Int).DivMod(wide(a), wide(b), new(big.Int)) // rest is never below 0
	above := new(big.Int).Add(below, wide(1))
	half := new(big.Int).Lsh(rest, 1).Cmp(wide(b))
	nearest := map[int]*big.Int{-1: below, 1: above}
	n, e := nearest[half], nearest[half]
	if half == 0 {
		n, e = above, above
		if below.CmpAbs(above) > 0 {
			n = below
		}
		if below.Bit(0) == 0 {
			e = below
		}
	}
	return slim(t, below), slim(t, n), slim(t, e), slim(t, rest)
}

// divides holds all that is told of a by b against what is asked for.
func divides(t *testing.T, a, b, down, near, even, left int) {
	t.Helper()
	alike(t, tell(Down(a, b)), told{down, api.OK}, "Down", a, b)
	alike(t, tell(Near(a, b)), told{near, api.OK}, "Near", a, b)
	alike(t, tell(Even(a, b)), told{even, api.OK}, "Even", a, b)
	alike(t, tell(Left(a, b)), told{left, api.OK}, "Left", a, b)
}

// 3.2: Down, Near, Even and Left

func TestDivision(t *testing.T) {
	for _, x := range [][6]int{
		{-7, 2, -4, -4, -4, 1}, {5, 2, 2, 3, 2, 1}, {-5, 2, -3, -3, -2, 1}, {7, 2, 3, 4, 4, 1}, {1, 2, 0, 1, 0, 1}, {-1, 2, -1, -1, 0, 1}, {-3, 2, -2, -2, -2, 1}, {3, 2, 1, 2, 2, 1}, // just a half
		{6, 4, 1, 2, 2, 2}, {10, 4, 2, 3, 2, 2}, {-6, 4, -2, -2, -2, 2}, {-10, 4, -3, -3, -2, 2},
		{7, 3, 2, 2, 2, 1}, {8, 3, 2, 3, 3, 2}, {-7, 3, -3, -2, -2, 2}, {-8, 3, -3, -3, -3, 1}, {4, 9, 0, 0, 0, 4}, {5, 9, 0, 1, 1, 5}, {-4, 9, -1, 0, 0, 5}, {-5, 9, -1, -1, -1, 4},
		{0, 1, 0, 0, 0, 0}, {0, 9, 0, 0, 0, 0}, {9, 3, 3, 3, 3, 0}, {-9, 3, -3, -3, -3, 0}, {5, 1, 5, 5, 5, 0}, {-5, 1, -5, -5, -5, 0},
		{math.MinInt, 1, math.MinInt, math.MinInt, math.MinInt, 0}, {math.MaxInt, 1, math.MaxInt, math.MaxInt, math.MaxInt, 0},
		{math.MaxInt, 2, 1<<62 - 1, 1 << 62, 1 << 62, 1}, {math.MinInt + 1, 2, -1 << 62, -1 << 62, -1 << 62, 1},
		{math.MinInt, math.MaxInt, -2, -1, -1, math.MaxInt - 1}, {math.MaxInt, math.MaxInt, 1, 1, 1, 0}, {-math.MaxInt, math.MaxInt, -1, -1, -1, 0}, {-1, math.MaxInt, -1, 0, 0, math.MaxInt - 1}, {1, math.MaxInt, 0, 0, 0, 1},
		{1 << 61, 1 << 62, 0, 1, 0, 1 << 61}, {-1 << 61, 1 << 62, -1, -1, 0, 1 << 61}, {1<<61 + 1, 1 << 62, 0, 1, 1, 1<<61 + 1}, {1<<61 - 1, 1 << 62, 0, 0, 0, 1<<61 - 1},
		{1 << 62, math.MaxInt, 0, 1, 1, 1 << 62}, {1<<62 - 1, math.MaxInt, 0, 0, 0, 1<<62 - 1}, {-1 << 62, math.MaxInt, -1, -1, -1, 1<<62 - 1}, {-1<<62 + 1, math.MaxInt, -1, 0, 0, 1 << 62},
	} {
		divides(t, x[0], x[1], x[2], x[3], x[4], x[5])
	}
}

func TestDivisionIsTheChapters(t *testing.T) {
	check := func(a, b int) {
		t.Helper()
		down, near, even, left := divided(t, a, b)
		divides(t, a, b, down, near, even, left)
	}
	for b := 1; b <= 24; b++ {
		for a := -200; a <= 200; a++ {
			check(a, b)
		}
	}
	for _, a := range edges() {
		for _, b := range edges() {
			if b > 0 {
				check(a, b)
			}
		}
	}
	r := rand.New(rand.NewSource(4))
	for range 50000 {
		l := draw(r, 2)
		check(l[0], Size(l[1])|1)
		check(l[0], Size(l[1])&^1|2)
	}
}

func TestDivisionRefuses(t *testing.T) {
	no := told{0, api.ErrArg}
	for _, b := range edges() {
		if b > 0 {
			continue
		}
		for _, a := range edges() {
			alike(t, tell(Down(a, b)), no, "Down", a, b)
			alike(t, tell(Near(a, b)), no, "Near", a, b)
			alike(t, tell(Even(a, b)), no, "Even", a, b)
			alike(t, tell(Left(a, b)), no, "Left", a, b)
		}
	}
}

// All numbers of the least kind, so that no end of a kind is left out: what is handed on is what down would be and where the half lies, and what comes back is heeded.
func TestRoundedOfTheLeastKind(t *testing.T) {
	for a := math.MinInt8; a <= math.MaxInt8; a++ {
		for b := math.MinInt8; b <= math.MaxInt8; b++ {
			if b < 1 {
				n, e := rounded(int8(a), int8(b), func(int8, int) bool { t.Error("a half of what may not be"); return true })
				alike(t, tell(int(n), e), told{0, api.ErrArg}, "rounded", a, b)
				continue
			}
			down, _, _, left := divided(t, a, b)
			for _, up := range []bool{false, left > 0} { // of whole ones none goes up, as the one above may be no number
				asked, want := 0, down
				if up {
					want++
				}
				n, e := rounded(int8(a), int8(b), func(below int8, half int) bool {
					asked++
					alike(t, int(below), down, "what is below", a, b)
					alike(t, sign(half), sign(2*left-b), "the half", a, b)
					return up
				})
				alike(t, tell(int(n), e), told{want, api.OK}, "rounded", a, b)
				alike(t, asked, 1, "how often it is asked", a, b)
			}
		}
	}
}

// sign is -1, 0 or 1, as n is below, just or above 0.
func sign(n int) int { return wide(n).Sign() }
