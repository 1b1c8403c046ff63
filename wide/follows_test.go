package wide

import (
	"math"
	"math/big"
	"math/rand"
	"testing"

	"rheostat/api"
)

// threes are numbers by threes: all edges, and drawn ones.
func threes() [][3]int {
	var l [][3]int
	for _, a := range edges() {
		for _, b := range edges() {
			for _, c := range edges() {
				l = append(l, [3]int{a, b, c})
			}
		}
	}
	r := rand.New(rand.NewSource(6))
	for range 20000 {
		l = append(l, [3]int{draw(r), draw(r), draw(r)})
	}
	return l
}

// 4.3: products hang on no order.
func TestProductsHangOnNoOrder(t *testing.T) {
	for _, x := range threes() {
		alike(t, "Mul", Mul(x[0], x[1]), Mul(x[1], x[0]), x[0], x[1])
		if x[2] > 0 {
			alike(t, "MulDown", tell(MulDown(x[0], x[1], x[2])), tell(MulDown(x[1], x[0], x[2])), x)
			alike(t, "MulNear", tell(MulNear(x[0], x[1], x[2])), tell(MulNear(x[1], x[0], x[2])), x)
		}
	}
}

// 4.3: products go over sums, which are numbers.
func TestProductsGoOverSums(t *testing.T) {
	for _, x := range threes() {
		sum := Add(Of(x[1]), Of(x[2]))
		if b, e := Down(sum, 1); e == api.OK {
			alike(t, "Mul of a sum", Mul(x[0], b), Add(Mul(x[0], x[1]), Mul(x[0], x[2])), x)
		}
	}
}

// 4.4: Down of Mul(a, b) by b is a (b above 0); nothing is left, so that Near is a, too.
func TestDownLeadsBack(t *testing.T) {
	for _, x := range threes() {
		a, b := x[0], x[1]
		if b < 1 {
			continue
		}
		alike(t, "Down of Mul", tell(Down(Mul(a, b), b)), told{a, api.OK}, a, b)
		alike(t, "MulDown", tell(MulDown(a, b, b)), told{a, api.OK}, a, b)
		alike(t, "MulNear", tell(MulNear(a, b, b)), told{a, api.OK}, a, b)
	}
}

// quotients hands on numbers and divisors, about the ends of what is a number and between them.
func quotients(yield func(n Number, c int) bool) {
	r := rand.New(rand.NewSource(7))
	for range 50000 {
		c := drawDivisor(r)
		if !yield(drawWide(r), c) || !yield(Add(Mul(draw(r), c), Of(draw(r))), c) {
			return
		}
	}
	for _, c := range divisors() {
		for _, n := range append(wideEdges(), Mul(math.MinInt, c), Mul(math.MaxInt, c), Add(Mul(math.MaxInt, c), Of(c-1))) {
			if !yield(n, c) {
				return
			}
		}
	}
}

// 4.5: what is left by Down lies from 0 to c - 1.
func TestWhatIsLeft(t *testing.T) {
	for n, c := range quotients {
		down, e := Down(n, c)
		if e != api.OK {
			continue
		}
		left := new(big.Int).Sub(whole(n), product(down, c))
		if left.Sign() < 0 || left.Cmp(big.NewInt(int64(c))) >= 0 {
			t.Fatalf("Down of %v by %d: %d, which leaves %v", n, c, down, left)
		}
	}
}

// 4.6: Near differs from Down by one at most, and is never below it.
func TestNearAndDown(t *testing.T) {
	for n, c := range quotients {
		down, e := Down(n, c)
		near, f := Near(n, c)
		if e != api.OK || f != api.OK {
			continue
		}
		if near < down || Compare(Of(near), Add(Of(down), Of(1))) > 0 {
			t.Fatalf("of %v by %d: Near %d, Down %d", n, c, near, down)
		}
	}
}

// 4.6, where but one of them is a number: it is the last one ahead of what is none.
func TestNearAndDownAtTheEnds(t *testing.T) {
	ends := [2]int{}
	for _, c := range divisors() {
		for _, n := range []Number{Add(Mul(math.MaxInt, c), Of(c-1)), Add(Mul(math.MinInt, c), Of(-1))} {
			down, near := tell(Down(n, c)), tell(Near(n, c))
			switch {
			case down.e == api.OK && near.e == api.ErrLong:
				alike(t, "Down", down.n, math.MaxInt, n, c)
				ends[0]++
			case down.e == api.ErrLong && near.e == api.OK:
				alike(t, "Near", near.n, math.MinInt, n, c)
				ends[1]++
			}
		}
	}
	if ends[0] == 0 || ends[1] == 0 {
		t.Errorf("such ends: %v", ends)
	}
}
