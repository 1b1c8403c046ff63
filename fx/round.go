package fx

import (
	"cmp"

	"rheostat/api"
)

// whole are the numbers that rounded divides: all kinds that have a sign, as what it does near the ends of a kind can be gone through one by one in the least of them.
type whole interface {
	~int | ~int8 | ~int16 | ~int32 | ~int64
}

// rounded is a by b, rounded down or up. Which of them, up decides: it is handed what down would be, and whether what is left then is less than a half of b (below 0), just a half (0) or more (above 0).
func rounded[N whole](a, b N, up func(down N, half int) bool) (N, api.Errno) {
	if b < 1 {
		return 0, api.ErrArg
	}
	down, left := split(a, b)
	if up(down, cmp.Compare(left, b-left)) { // twice what is left may be no number
		down++
	}
	return down, api.OK
}

// split is a by b (above 0), rounded down, and what is left: Go's own division goes towards 0 and leaves what is below 0.
func split[N whole](a, b N) (down, left N) {
	down, left = a/b, a%b
	if left < 0 {
		return down - 1, left + b
	}
	return down, left
}

// Down is a by b, rounded down.
func Down(a, b int) (int, api.Errno) {
	return rounded(a, b, func(int, int) bool { return false })
}

// Near is a by b, rounded to the nearest number, of two to the one farther from 0.
func Near(a, b int) (int, api.Errno) {
	return rounded(a, b, func(_, half int) bool { return half > 0 || half == 0 && a > 0 })
}

// Even is a by b, rounded to the nearest number, of two to the even one.
func Even(a, b int) (int, api.Errno) {
	return rounded(a, b, func(down, half int) bool { return half > 0 || half == 0 && down%2 != 0 })
}

// Left is what rounding a by b down leaves.
func Left(a, b int) (int, api.Errno) {
	if b < 1 {
		return 0, api.ErrArg
	}
	_, left := split(a, b)
	return left, api.OK
}
