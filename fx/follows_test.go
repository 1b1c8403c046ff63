package fx

import (
	"math"
	"math/big"
	"math/rand"
	"testing"

	"rheostat/api"
)

// 3.4: a clamped number is within its bound; clamping twice is clamping once.
func TestClampedStays(t *testing.T) {
	r := rand.New(rand.NewSource(5))
	for _, b := range bounds {
		for _, n := range append(edges(), draw(r, 1000)...) {
			once, e := Clamp(b, n)
			if e != api.OK || once < -b || once > b {
				t.Fatalf("Clamp(%d, %d): %d, %v", b, n, once, e)
			}
			alike(t, tell(Clamp(b, once)), told{once, api.OK}, "Clamp, once more,", b, n)
		}
	}
}

// 3.4: all that Sum makes on its way is clamped, too.
func TestSumStays(t *testing.T) {
	r := rand.New(rand.NewSource(6))
	for _, b := range bounds {
		l := draw(r, 300)
		for many := range l {
			s, e := Sum(b, l[:many]...)
			if e != api.OK || s < -b || s > b {
				t.Fatalf("Sum(%d, %v): %d, %v", b, l[:many], s, e)
			}
		}
	}
}

// pairs are numbers and what may divide them.
func pairs() [][2]int {
	var l [][2]int
	for _, a := range edges() {
		for _, b := range edges() {
			if b > 0 {
				l = append(l, [2]int{a, b})
			}
		}
	}
	r := rand.New(rand.NewSource(7))
	for range 20000 {
		n := draw(r, 2)
		l = append(l, [2]int{n[0], max(1, Size(n[1]))})
	}
	return l
}

// 3.5: a is b times Down and Left, which lies from 0 to b - 1.
func TestDownAndLeft(t *testing.T) {
	for _, p := range pairs() {
		down, _ := Down(p[0], p[1])
		left, _ := Left(p[0], p[1])
		again := new(big.Int).Mul(wide(p[1]), wide(down))
		alike(t, slim(t, again.Add(again, wide(left))), p[0], "b times Down and Left", p[:]...)
		if left < 0 || left >= p[1] {
			t.Fatalf("Left of %v: %d", p, left)
		}
	}
}

// 3.6: Near and Even differ from a by b by a half at most, and by one another at most by one, only at a half.
func TestNearAndEven(t *testing.T) {
	for _, p := range pairs() {
		near, _ := Near(p[0], p[1])
		even, _ := Even(p[0], p[1])
		n, e := off(p[0], p[1], near), off(p[0], p[1], even)
		if n > 0 || e > 0 {
			t.Fatalf("Near of %v: %d, Even: %d: more than a half away", p, near, even)
		}
		if near == even {
			continue
		}
		if n != 0 || e != 0 || Size(near-even) != 1 || even%2 != 0 || Size(near) < Size(even) {
			t.Fatalf("Near of %v: %d, Even: %d", p, near, even)
		}
	}
}

// off tells whether n is less than a half away from a by b (below 0), just a half (0), or more (above 0).
func off(a, b, n int) int {
	away := new(big.Int).Mul(wide(b), wide(n))
	away.Sub(wide(a), away)
	return away.Lsh(away, 1).CmpAbs(wide(b))
}

// 3.7: Toward comes there in as many steps as there are, and never beyond.
func TestTowardComesThere(t *testing.T) {
	for from := -20; from <= 20; from++ {
		for to := -20; to <= 20; to++ {
			for step := 1; step <= 45; step++ {
				steps := (Size(to-from) + step - 1) / step
				at := from
				for n := range steps {
					if at == to {
						t.Fatalf("from %d to %d by %d: there at %d, want %d", from, to, step, n, steps)
					}
					at = along(t, at, to, step)
				}
				alike(t, at, to, "where it comes", from, to, step)
				alike(t, along(t, at, to, step), to, "where it stays", from, to, step)
			}
		}
	}
}

// along is where a step leads, which must lie between here and there.
func along(t *testing.T, at, to, step int) int {
	t.Helper()
	next := Toward(at, to, step)
	if next < min(at, to) || next > max(at, to) {
		t.Fatalf("from %d to %d by %d: %d", at, to, step, next)
	}
	return next
}

// 3.7: all numbers there are, gone through in a few great steps.
func TestTowardGoesAllTheWay(t *testing.T) {
	for _, ends := range [][2]int{{math.MinInt, math.MaxInt}, {math.MaxInt, math.MinInt}} {
		for step, steps := range map[int]int{math.MaxInt: 3, 1 << 62: 4, 1<<62 - 1: 5, 1 << 61: 8} {
			at := ends[0]
			for range steps - 1 {
				at = along(t, at, ends[1], step)
			}
			if at == ends[1] {
				t.Fatalf("from %d by %d: there too early", ends[0], step)
			}
			alike(t, along(t, at, ends[1], step), ends[1], "where it comes", ends[0], step)
		}
	}
}
