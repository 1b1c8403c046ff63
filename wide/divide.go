package wide

import (
	"math/bits"

	"rheostat/api"
)

// Down is n by c, rounded down.
func Down(n Number, c int) (int, api.Errno) {
	if c < 1 {
		return 0, api.ErrArg
	}
	down, _ := split(n, c)
	return slim(down)
}

// Near is n by c, rounded to the nearest number, of two to the one farther from 0.
func Near(n Number, c int) (int, api.Errno) {
	if c < 1 {
		return 0, api.ErrArg
	}
	down, left := split(n, c)
	rest := c - left // held against what is left, as twice that may be no number
	if left > rest || left == rest && n.High >= 0 {
		return slim(Add(down, Of(1))) // rounded while it is wide: what is below may be no number where this is one
	}
	return slim(down)
}

// MulDown is a times b by c, rounded down.
func MulDown(a, b, c int) (int, api.Errno) { return Down(Mul(a, b), c) }

// MulNear is a times b by c, rounded to the nearest number, of two to the one farther from 0.
func MulNear(a, b, c int) (int, api.Errno) { return Near(Mul(a, b), c) }

// split is n by c (above 0), rounded down, and what is left. What is left of the high part is below c, as bits.Div asks.
func split(n Number, c int) (down Number, left int) {
	high, rest := n.High/c, n.High%c
	if rest < 0 { // Go's own division goes towards 0
		high, rest = high-1, rest+c
	}
	low, over := bits.Div(uint(rest), n.Low, uint(c))
	return Number{High: high, Low: low}, int(over)
}

// slim is n as a number, where it is one: that of its low part is as wide as it then.
func slim(n Number) (int, api.Errno) {
	a := int(n.Low)
	if Of(a) != n {
		return 0, api.ErrLong
	}
	return a, api.OK
}
