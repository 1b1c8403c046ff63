package fx

import (
	"math"
	"math/big"
	"math/rand"
	"slices"
	"testing"

	"rheostat/api"
)

// bounds are bounds: the least, the greatest, and some between.
var bounds = []int{1, 2, 3, 10, 1000, 1 << 31, 1<<61 - 1, 1 << 61}

// noBounds are numbers that are no bounds.
var noBounds = []int{0, -1, -2, -1 << 61, math.MinInt, 1<<61 + 1, 1 << 62, math.MaxInt}

// edges are the small numbers, and those about the ends of bounds and of all numbers.
func edges() []int {
	l := []int{math.MinInt, math.MinInt + 1, math.MinInt + 2, math.MaxInt - 2, math.MaxInt - 1, math.MaxInt}
	for n := -12; n <= 12; n++ {
		l = append(l, n)
	}
	for _, n := range []int{1000, 1 << 31, 1 << 61, 1 << 62} {
		l = append(l, n-1, n, n+1, -n-1, -n, -n+1)
	}
	return l
}

// draw draws so many numbers, great and small ones alike.
func draw(r *rand.Rand, many int) []int {
	l := make([]int, many)
	for i := range l {
		l[i] = int(r.Uint64()) >> r.Intn(64)
	}
	return l
}

// wide is n, where sums and products are of any size.
func wide(n int) *big.Int { return big.NewInt(int64(n)) }

// slim is n as a number; the test fails where it is none.
func slim(t *testing.T, n *big.Int) int {
	t.Helper()
	if !n.IsInt64() {
		t.Fatalf("%v is no number", n)
	}
	return int(n.Int64())
}

// clamped is n clamped within b, in the chapter's words.
func clamped(b int, n *big.Int) *big.Int {
	if n.CmpAbs(wide(b)) <= 0 {
		return n
	}
	return wide(b * n.Sign())
}

// told is what a call told.
type told struct {
	n int
	e api.Errno
}

// tell makes an answer of what a call told.
func tell(n int, e api.Errno) told { return told{n, e} }

// alike holds an answer against the one that is asked for.
func alike[T comparable](t *testing.T, got, want T, what string, with ...int) {
	t.Helper()
	if got != want {
		t.Fatalf("%s of %v: %v, want %v", what, with, got, want)
	}
}

// 3.1: Clamp, Between and Sum

func TestClamp(t *testing.T) {
	for _, b := range bounds {
		for _, n := range append(edges(), b-1, b, b+1, -b-1, -b, -b+1) {
			alike(t, tell(Clamp(b, n)), told{slim(t, clamped(b, wide(n))), api.OK}, "Clamp", b, n)
		}
	}
	alike(t, tell(Clamp(5, -9)), told{-5, api.OK}, "Clamp", 5, -9)
	alike(t, tell(Clamp(5, 9)), told{5, api.OK}, "Clamp", 5, 9)
	alike(t, tell(Clamp(5, -4)), told{-4, api.OK}, "Clamp", 5, -4)
}

func TestClampRefuses(t *testing.T) {
	for _, b := range noBounds {
		for _, n := range edges() {
			alike(t, tell(Clamp(b, n)), told{0, api.ErrArg}, "Clamp", b, n)
		}
	}
}

func TestBetween(t *testing.T) {
	for _, x := range [][4]int{
		{1, 9, 5, 5}, {1, 9, 1, 1}, {1, 9, 9, 9}, {1, 9, 0, 1}, {1, 9, 10, 9}, {4, 4, 3, 4}, {4, 4, 4, 4}, {4, 4, 5, 4}, {-9, -1, -10, -9}, {-9, -1, 0, -1},
		{math.MinInt, math.MaxInt, math.MinInt, math.MinInt}, {math.MinInt, math.MaxInt, math.MaxInt, math.MaxInt}, {math.MinInt, math.MinInt, math.MaxInt, math.MinInt}, {math.MaxInt, math.MaxInt, math.MinInt, math.MaxInt},
		{3, 1, 0, 3}, {3, 1, 1, 3}, {3, 1, 2, 3}, {3, 1, 3, 1}, {3, 1, 4, 1}, {math.MaxInt, math.MinInt, 0, math.MaxInt}, {math.MaxInt, math.MinInt, math.MaxInt, math.MinInt}, // low above high
	} {
		alike(t, Between(x[0], x[1], x[2]), x[3], "Between", x[:3]...)
	}
}

func TestBetweenIsTheChapters(t *testing.T) {
	l := edges()
	for _, low := range l {
		for _, high := range l {
			for _, n := range l {
				want := high
				if !(n < low) && !(n > high) {
					want = n
				} else if n < low {
					want = low
				}
				alike(t, Between(low, high, n), want, "Between", low, high, n)
			}
		}
	}
}

// summed is the sum of numbers within a bound, in the chapter's words.
func summed(t *testing.T, b int, l []int) int {
	t.Helper()
	sum := new(big.Int)
	for _, n := range l {
		sum = clamped(b, new(big.Int).Add(sum, wide(n)))
	}
	return slim(t, sum)
}

func TestSum(t *testing.T) {
	for _, x := range []struct {
		b, want int
		l       []int
	}{
		{1, 0, nil}, {1 << 61, 0, []int{}},
		{10, 7, []int{8, 9, -3}}, // clamped on the way, not at the end alone
		{10, -7, []int{-8, -9, 3}},
		{10, -10, []int{10, -25}}, // the next number is not clamped ahead of the sum
		{10, 10, []int{-10, 25}},
		{10, -5, []int{10, -15}},
		{10, 10, []int{4, 6}}, {10, 10, []int{4, 7}}, {10, -10, []int{-4, -6}}, {10, -10, []int{-4, -7}},
		{1, 1, []int{math.MaxInt}}, {1, -1, []int{math.MinInt}}, {1, -1, []int{math.MaxInt, math.MinInt}},
		{1 << 61, -1 << 61, []int{1 << 62, 1 << 62, math.MinInt, math.MinInt}},
		{1 << 61, 1 << 61, []int{math.MinInt, math.MaxInt, math.MaxInt}},
		{1 << 61, 1<<61 - 1, []int{1 << 61, 1 << 61, -1}},
		{1 << 61, 0, []int{1 << 61, -1 << 61}}, {1 << 61, 0, []int{-1 << 61, 1 << 61}},
	} {
		alike(t, tell(Sum(x.b, x.l...)), told{x.want, api.OK}, "Sum", append([]int{x.b}, x.l...)...)
	}
}

func TestSumIsTheChapters(t *testing.T) {
	r := rand.New(rand.NewSource(1))
	for range 20000 {
		b := bounds[r.Intn(len(bounds))]
		l := draw(r, r.Intn(12))
		alike(t, tell(Sum(b, l...)), told{summed(t, b, l), api.OK}, "Sum", append([]int{b}, l...)...)
	}
	for _, b := range bounds {
		for _, x := range edges() {
			for _, y := range edges() {
				alike(t, tell(Sum(b, x, y)), told{summed(t, b, []int{x, y}), api.OK}, "Sum", b, x, y)
			}
		}
	}
}

func TestSumOfMany(t *testing.T) {
	l := draw(rand.New(rand.NewSource(2)), 100000)
	alike(t, tell(Sum(1<<61, l...)), told{summed(t, 1<<61, l), api.OK}, "Sum of many")
}

func TestSumRefuses(t *testing.T) {
	for _, b := range noBounds {
		for _, l := range [][]int{nil, {}, {0}, {1, 2, 3}, {math.MinInt, math.MaxInt}} {
			alike(t, tell(Sum(b, l...)), told{0, api.ErrArg}, "Sum", append([]int{b}, l...)...)
		}
	}
}

// Rules: what is handed in is not changed.
func TestNumbersStayAsTheyAre(t *testing.T) {
	all := []int{9, -70000, 3, math.MaxInt, math.MinInt, 5}
	numbers, before := all[:4], slices.Clone(all)
	Sum(10, numbers...)
	Sum(0, numbers...)
	if !slices.Equal(all, before) {
		t.Errorf("the numbers: %v, want %v", all, before)
	}
}

// 3.3: Toward and Size

func TestToward(t *testing.T) {
	for _, x := range [][4]int{
		{5, 9, 3, 8}, {9, 5, 3, 6}, {5, 9, 4, 9}, {9, 5, 4, 5}, {5, 9, 5, 9}, {9, 5, 9, 5}, {5, 9, 1, 6}, {9, 5, 1, 8}, {5, 5, 1, 5},
		{5, 9, 0, 5}, {9, 5, 0, 9}, {5, 9, -1, 5}, {9, 5, -3, 9}, {5, 9, math.MinInt, 5}, {5, 5, 0, 5}, // a step below 1
		{5, 9, math.MaxInt, 9}, {9, 5, math.MaxInt, 5}, {-2, 2, 3, 1}, {2, -2, 3, -1}, {-2, 2, 4, 2}, {2, -2, 4, -2},
		{math.MinInt, math.MaxInt, 1, math.MinInt + 1}, {math.MaxInt, math.MinInt, 1, math.MaxInt - 1},
		{math.MinInt, math.MaxInt, math.MaxInt, -1}, {math.MaxInt, math.MinInt, math.MaxInt, 0},
		{-1, math.MaxInt, math.MaxInt, math.MaxInt - 1}, {0, math.MaxInt, math.MaxInt, math.MaxInt}, {0, math.MinInt, math.MaxInt, -math.MaxInt}, {-1, math.MinInt, math.MaxInt, math.MinInt},
		{math.MaxInt - 1, math.MaxInt, 5, math.MaxInt}, {math.MinInt + 1, math.MinInt, 5, math.MinInt},
	} {
		alike(t, Toward(x[0], x[1], x[2]), x[3], "Toward", x[:3]...)
	}
}

// onTheWay is a step towards a number, in the chapter's words.
func onTheWay(t *testing.T, from, to, step int) int {
	t.Helper()
	way := new(big.Int).Sub(wide(to), wide(from))
	switch {
	case step < 1:
		return from
	case way.CmpAbs(wide(step)) <= 0:
		return to
	}
	return slim(t, new(big.Int).Add(wide(from), new(big.Int).Mul(wide(step), wide(way.Sign()))))
}

func TestTowardIsTheChapters(t *testing.T) {
	l := edges()
	for _, from := range l {
		for _, to := range l {
			for _, step := range l {
				alike(t, Toward(from, to, step), onTheWay(t, from, to, step), "Toward", from, to, step)
			}
		}
	}
}

func TestSize(t *testing.T) {
	for _, x := range [][2]int{
		{0, 0}, {1, 1}, {-1, 1}, {7, 7}, {-7, 7}, {math.MaxInt, math.MaxInt}, {-math.MaxInt, math.MaxInt}, {-math.MaxInt + 1, math.MaxInt - 1}, {math.MinInt, math.MaxInt},
	} {
		alike(t, Size(x[0]), x[1], "Size", x[0])
	}
	for _, n := range draw(rand.New(rand.NewSource(3)), 10000) {
		want := new(big.Int).Abs(wide(n))
		if want.Cmp(wide(math.MaxInt)) > 0 {
			want = wide(math.MaxInt)
		}
		alike(t, Size(n), slim(t, want), "Size", n)
	}
}
