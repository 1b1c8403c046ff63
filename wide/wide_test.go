package wide

import (
	"math"
	"math/big"
	"math/rand"
	"slices"
	"testing"

	"rheostat/api"
)

// lowest and highest are the ends of all wide numbers.
var (
	lowest  = Number{High: math.MinInt}
	highest = Number{High: math.MaxInt, Low: math.MaxUint}
)

// edges are the small numbers, and those about halves, powers and ends.
func edges() []int {
	l := []int{math.MinInt, math.MinInt + 1, math.MinInt + 2, math.MaxInt - 2, math.MaxInt - 1, math.MaxInt}
	for n := -5; n <= 5; n++ {
		l = append(l, n)
	}
	for _, n := range []int{10000, 1 << 31, 1 << 32, 1 << 61, 1 << 62} {
		l = append(l, n-1, n, n+1, -n-1, -n, -n+1)
	}
	return l
}

// divisors are those of the edges that may be one.
func divisors() []int {
	return slices.DeleteFunc(edges(), func(c int) bool { return c < 1 })
}

// wideEdges are numbers whose parts lie about their ends.
func wideEdges() []Number {
	var l []Number
	for _, high := range edges() {
		for _, low := range []uint{0, 1, 2, 1<<63 - 1, 1 << 63, 1<<63 + 1, math.MaxUint - 1, math.MaxUint} {
			l = append(l, Number{High: high, Low: low})
		}
	}
	return l
}

// draw draws a number, as likely a small one as a great one.
func draw(r *rand.Rand) int { return int(r.Uint64()) >> r.Intn(64) }

// drawWide draws a wide number, as likely a small one as a great one.
func drawWide(r *rand.Rand) Number {
	n := new(big.Int).Add(whole(Number{High: draw(r)}), new(big.Int).SetUint64(r.Uint64()))
	return round(n.Rsh(n, uint(r.Intn(128))))
}

// drawDivisor draws what may divide.
func drawDivisor(r *rand.Rand) int { return max(1, int(r.Uint64()>>1)>>r.Intn(63)) }

// whole is a wide number where there is room for any, in the chapter's words.
func whole(n Number) *big.Int {
	high := new(big.Int).Lsh(big.NewInt(int64(n.High)), 64)
	return high.Add(high, new(big.Int).SetUint64(uint64(n.Low)))
}

// round is a number that goes round within 128 bits.
func round(n *big.Int) Number {
	low := new(big.Int).And(n, new(big.Int).SetUint64(math.MaxUint64))
	high := new(big.Int).Rsh(n, 64)
	high.And(high, new(big.Int).SetUint64(math.MaxUint64))
	return Number{High: int(high.Uint64()), Low: uint(low.Uint64())}
}

// product is a times b in the chapter's words.
func product(a, b int) *big.Int {
	return new(big.Int).Mul(big.NewInt(int64(a)), big.NewInt(int64(b)))
}

// alike holds an answer against the one that is asked for.
func alike[T comparable](t *testing.T, what string, got, want T, with ...any) {
	t.Helper()
	if got != want {
		t.Fatalf("%s of %v: %v, want %v", what, with, got, want)
	}
}

// 4.1: Mul, Of, Add and Compare

func TestExamples(t *testing.T) {
	alike(t, "Mul", Mul(1<<62, 4), Number{High: 1}, 1<<62, 4)
	alike(t, "MulNear", tell(MulNear(10000, 3, 7)), told{4286, api.OK}, 10000, 3, 7)
}

func TestMul(t *testing.T) {
	for _, x := range []struct {
		a, b int
		want Number
	}{
		{0, 0, Number{}}, {0, -1, Number{}}, {math.MinInt, 0, Number{}},
		{3, 5, Number{Low: 15}}, {-3, -5, Number{Low: 15}}, {-3, 5, Number{High: -1, Low: math.MaxUint - 14}}, {3, -5, Number{High: -1, Low: math.MaxUint - 14}},
		{1 << 62, 2, Number{Low: 1 << 63}}, {math.MinInt, -1, Number{Low: 1 << 63}}, {math.MinInt, 1, Number{High: -1, Low: 1 << 63}},
		{1 << 32, 1 << 32, Number{High: 1}}, {-1 << 32, 1 << 32, Number{High: -1}}, {math.MinInt, 2, Number{High: -1}}, {math.MinInt, -2, Number{High: 1}},
		{math.MinInt, math.MinInt, Number{High: 1 << 62}}, {math.MaxInt, math.MaxInt, Number{High: 1<<62 - 1, Low: 1}}, {math.MinInt, math.MaxInt, Number{High: -1 << 62, Low: 1 << 63}},
	} {
		alike(t, "Mul", Mul(x.a, x.b), x.want, x.a, x.b)
	}
}

func TestMulIsTheChapters(t *testing.T) {
	for _, a := range edges() {
		for _, b := range edges() {
			alike(t, "Mul", Mul(a, b), round(product(a, b)), a, b)
		}
	}
	r := rand.New(rand.NewSource(1))
	for range 50000 {
		a, b := draw(r), draw(r)
		alike(t, "Mul", Mul(a, b), round(product(a, b)), a, b)
	}
}

func TestOf(t *testing.T) {
	alike(t, "Of", Of(0), Number{}, 0)
	alike(t, "Of", Of(7), Number{Low: 7}, 7)
	alike(t, "Of", Of(-1), Number{High: -1, Low: math.MaxUint}, -1)
	alike(t, "Of", Of(math.MaxInt), Number{Low: 1<<63 - 1}, math.MaxInt)
	alike(t, "Of", Of(math.MinInt), Number{High: -1, Low: 1 << 63}, math.MinInt)
	for _, a := range edges() {
		alike(t, "Of", Of(a), round(big.NewInt(int64(a))), a)
		alike(t, "Mul by 1", Mul(a, 1), Of(a), a)
	}
}

func TestAdd(t *testing.T) {
	for _, x := range []struct {
		l    []Number
		want Number
	}{
		{nil, Number{}}, {[]Number{}, Number{}}, {[]Number{lowest}, lowest}, {[]Number{highest}, highest},
		{[]Number{Of(-1), Of(1)}, Number{}}, {[]Number{Of(3), Of(-5), Of(9)}, Of(7)},
		{[]Number{{Low: math.MaxUint}, Of(1)}, Number{High: 1}}, {[]Number{{High: 1}, Of(-1)}, Number{Low: math.MaxUint}}, // from part to part
		{[]Number{highest, Of(1)}, lowest}, {[]Number{lowest, Of(-1)}, highest}, {[]Number{lowest, lowest}, Number{}}, {[]Number{highest, highest}, Of(-2)}, // gone round
		{[]Number{highest, Of(1), Of(-1)}, highest},
	} {
		alike(t, "Add", Add(x.l...), x.want, x.l)
	}
}

// added is the sum of numbers, gone round within 128 bits, in the chapter's words.
func added(l ...Number) Number {
	sum := new(big.Int)
	for _, n := range l {
		sum.Add(sum, whole(n))
	}
	return round(sum)
}

func TestAddIsTheChapters(t *testing.T) {
	for _, a := range wideEdges() {
		alike(t, "Add", Add(a), a, a)
		for _, b := range wideEdges() {
			alike(t, "Add", Add(a, b), added(a, b), a, b)
		}
	}
	r := rand.New(rand.NewSource(2))
	for many := range 400 {
		l := make([]Number, many)
		for i := range l {
			l[i] = drawWide(r)
		}
		alike(t, "Add", Add(l...), added(l...), l)
	}
}

func TestAddOfMany(t *testing.T) {
	alike(t, "Add of many", Add(slices.Repeat([]Number{highest}, 300000)...), Of(-300000), 300000)
	alike(t, "Add of many", Add(slices.Repeat([]Number{{Low: math.MaxUint}}, 1<<17)...), Number{High: 1<<17 - 1, Low: math.MaxUint - 1<<17 + 1}, 1<<17)
}

func TestCompare(t *testing.T) {
	for _, x := range []struct {
		a, b Number
		want int
	}{
		{Number{}, Number{}, 0}, {Of(-1), Of(1), -1}, {Of(1), Of(-1), 1}, {Of(5), Of(5), 0},
		{Number{Low: 1 << 63}, Number{Low: 1<<63 - 1}, 1}, {Number{Low: math.MaxUint}, Number{}, 1}, // the low part has no sign
		{Number{High: 1}, Number{Low: math.MaxUint}, 1}, {Number{High: -1}, Number{}, -1}, {Number{High: -1, Low: math.MaxUint}, Number{High: -1}, 1},
		{lowest, highest, -1}, {highest, lowest, 1}, {lowest, lowest, 0}, {highest, highest, 0},
	} {
		alike(t, "Compare", Compare(x.a, x.b), x.want, x.a, x.b)
	}
}

func TestCompareIsTheChapters(t *testing.T) {
	l := wideEdges()
	r := rand.New(rand.NewSource(3))
	for range 300 {
		l = append(l, drawWide(r))
	}
	for _, a := range l {
		for _, b := range l {
			alike(t, "Compare", Compare(a, b), whole(a).Cmp(whole(b)), a, b)
		}
	}
}

// Rules: what is handed in is not changed.

func TestNumbersStayAsTheyAre(t *testing.T) {
	all := []Number{highest, Of(1), Of(-9), lowest}
	numbers, before := all[:3], slices.Clone(all)
	Add(numbers...)
	if !slices.Equal(all, before) {
		t.Errorf("the numbers: %v, want %v", all, before)
	}
}
