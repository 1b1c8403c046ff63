package pack

import (
	"math"
	"math/big"
	"math/rand"
	"slices"
	"testing"

	"rheostat/api"
)

// edges are the small numbers, and those about the ends of all words, with a sign and without.
func edges() []int {
	l := []int{math.MinInt, math.MinInt + 1, math.MaxInt - 1, math.MaxInt}
	for n := -3; n <= 3; n++ {
		l = append(l, n)
	}
	for _, bit := range []int{15, 16, 17, 31, 32, 33, 47, 48, 49, 62} {
		n := 1 << bit
		l = append(l, n-1, n, n+1, -n-1, -n, -n+1)
	}
	return l
}

// wordEdges are words, the ends of all and of signs among them.
var wordEdges = []int{0, 1, 2, 4660, 32767, 32768, 32769, 65534, 65535}

// noWords are numbers that are no words.
var noWords = []int{-1, -65535, -65536, math.MinInt, 65536, 65537, 131071, math.MaxInt}

// noCounts are numbers of words that no number has.
var noCounts = []int{0, -1, -16, math.MinInt, 5, 6, 64, math.MaxInt}

// draw draws a number, as likely a small one as a great one.
func draw(r *rand.Rand) int { return int(r.Uint64()) >> r.Intn(64) }

// drawWords draws so many words.
func drawWords(r *rand.Rand, many int) []int {
	l := make([]int, many)
	for i := range l {
		l[i] = r.Intn(65536)
	}
	return l
}

// runs hands on all lists of so many of the word edges.
func runs(many int) [][]int {
	l := [][]int{nil}
	for range many {
		var longer [][]int
		for _, run := range l {
			for _, w := range wordEdges {
				longer = append(longer, append(slices.Clone(run), w))
			}
		}
		l = longer
	}
	return l
}

// answer is what a call told that answers a number.
type answer struct {
	n int
	e api.Errno
}

// tell makes an answer of what a call told.
func tell(n int, e api.Errno) answer { return answer{n, e} }

// alike holds an answer against the one that is asked for.
func alike(t *testing.T, what string, got, want answer, with ...any) {
	t.Helper()
	if got != want {
		t.Fatalf("%s of %v: %v, want %v", what, with, got, want)
	}
}

// lists wants a call to have answered this list.
func lists(t *testing.T, what string, got []int, e api.Errno, want []int, with ...any) {
	t.Helper()
	if e != api.OK || !slices.Equal(got, want) {
		t.Fatalf("%s of %v: %v, %v, want %v", what, with, got, e, want)
	}
}

// refuses wants a call to have answered this error, and no list.
func refuses(t *testing.T, what string, got []int, e, want api.Errno, with ...any) {
	t.Helper()
	if e != want || len(got) != 0 {
		t.Fatalf("%s of %v: %v, %v, want %v", what, with, got, e, want)
	}
}

// power is 2 to the n.
func power(n int) *big.Int { return new(big.Int).Lsh(big.NewInt(1), uint(n)) }

// spelt is a number in k words in the chapter's words, or nothing where it does not go into them: it is held from the least to below the end, and words below 0 go on from 2 to the 16k.
func spelt(k int, sign bool, n int) []int {
	left, least, end := big.NewInt(int64(n)), new(big.Int), power(16*k)
	if sign {
		least, end = new(big.Int).Neg(power(16*k-1)), power(16*k-1)
	}
	if left.Cmp(least) < 0 || left.Cmp(end) >= 0 {
		return nil
	}
	if left.Sign() < 0 {
		left.Add(left, power(16*k))
	}
	words := make([]int, k)
	for i := range words {
		words[k-1-i] = int(new(big.Int).Mod(left, power(16)).Int64())
		left.Div(left, power(16))
	}
	return words
}

// told is what the number in words is, in the chapter's words.
func told(sign bool, words ...int) answer {
	n := new(big.Int)
	for _, w := range words {
		n.Mul(n, power(16)).Add(n, big.NewInt(int64(w)))
	}
	if sign && words[0] > 32767 {
		n.Sub(n, power(16*len(words)))
	}
	if !n.IsInt64() {
		return answer{0, api.ErrLong}
	}
	return answer{int(n.Int64()), api.OK}
}

// calls are those of a kind of numbers.
type calls struct {
	name string
	sign bool
	put  func(k int, l ...int) ([]int, api.Errno)
	get  func(k int, words ...int) (int, api.Errno)
}

var kinds = []calls{{"with a sign", true, Signed, Get}, {"without a sign", false, Plain, GetPlain}}

// puts holds a number's words against those that are asked for.
func (c calls) puts(t *testing.T, k, n int) {
	t.Helper()
	got, e := c.put(k, n)
	if want := spelt(k, c.sign, n); want != nil {
		lists(t, c.name, got, e, want, k, n)
	} else {
		refuses(t, c.name, got, e, api.ErrArg, k, n)
	}
}

// gets holds the number in words against the one that is asked for.
func (c calls) gets(t *testing.T, words ...int) {
	t.Helper()
	alike(t, c.name, tell(c.get(len(words), words...)), told(c.sign, words...), words)
}

// 5.1: Signed and Plain

func TestExamples(t *testing.T) {
	got, e := Signed(2, -2)
	lists(t, "Signed", got, e, []int{65535, 65534}, 2, -2)
	got, e = Fields([]int{4, 12}, []int{1, 2})
	lists(t, "Fields", got, e, []int{4098}, 4, 12)
}

func TestPut(t *testing.T) {
	for _, x := range []struct {
		c       calls
		k       int
		l, want []int
	}{
		{kinds[0], 1, []int{-32768, -1, 0, 1, 32767}, []int{32768, 65535, 0, 1, 32767}},
		{kinds[1], 1, []int{0, 1, 32768, 65535}, []int{0, 1, 32768, 65535}},
		{kinds[0], 2, []int{-2, 65536}, []int{65535, 65534, 1, 0}},
		{kinds[1], 2, []int{65535, 1<<32 - 1, 0x12345678}, []int{0, 65535, 65535, 65535, 0x1234, 0x5678}},
		{kinds[0], 3, []int{-1 << 47, 1<<47 - 1}, []int{32768, 0, 0, 32767, 65535, 65535}},
		{kinds[1], 3, []int{1<<48 - 1, 0x123456789abc}, []int{65535, 65535, 65535, 0x1234, 0x5678, 0x9abc}},
		{kinds[0], 4, []int{math.MinInt, math.MaxInt, -1}, []int{32768, 0, 0, 0, 32767, 65535, 65535, 65535, 65535, 65535, 65535, 65535}},
		{kinds[1], 4, []int{math.MaxInt, 0x123456789abcdef0}, []int{32767, 65535, 65535, 65535, 0x1234, 0x5678, 0x9abc, 0xdef0}},
	} {
		got, e := x.c.put(x.k, x.l...)
		lists(t, x.c.name, got, e, x.want, x.k, x.l)
	}
}

func TestPutIsTheChapters(t *testing.T) {
	r := rand.New(rand.NewSource(1))
	for _, c := range kinds {
		for n := -70000; n <= 70000; n++ {
			c.puts(t, 1, n)
		}
		for k := 1; k <= 4; k++ {
			for _, n := range edges() {
				c.puts(t, k, n)
			}
			for range 20000 {
				c.puts(t, k, draw(r))
			}
		}
	}
}

func TestPutOfMany(t *testing.T) {
	for _, c := range kinds {
		for k := 1; k <= 4; k++ {
			for _, l := range [][]int{nil, {}} {
				got, e := c.put(k, l...)
				lists(t, c.name, got, e, nil, k, l)
			}
			var l, want []int
			for n := range 20000 { // no bound is named
				l, want = append(l, n), append(want, spelt(k, c.sign, n)...)
			}
			got, e := c.put(k, l...)
			lists(t, c.name, got, e, want, k)
		}
	}
}

func TestPutRefuses(t *testing.T) {
	for _, c := range kinds {
		for _, k := range noCounts {
			for _, l := range [][]int{nil, {}, {0}, {1, 2, 3}, {math.MinInt, math.MaxInt}} {
				got, e := c.put(k, l...)
				refuses(t, c.name, got, e, api.ErrArg, k, l)
			}
		}
		for k := 1; k < 4; k++ { // one that does not go in, wherever it stands
			beyond := 1 << (16 * k)
			for _, l := range [][]int{{beyond}, {beyond, 0, 0}, {0, beyond, 0}, {0, 0, beyond}, {0, 0, -beyond}} {
				got, e := c.put(k, l...)
				refuses(t, c.name, got, e, api.ErrArg, k, l)
			}
		}
	}
	for k := 1; k <= 4; k++ {
		for _, n := range []int{-1, -65536, math.MinInt} {
			got, e := Plain(k, 0, n)
			refuses(t, "Plain", got, e, api.ErrArg, k, n)
		}
	}
}

// 5.1: Get and GetPlain

func TestGet(t *testing.T) {
	for _, x := range []struct {
		k           int
		words       []int
		with, plain answer
	}{
		{1, []int{0}, answer{0, api.OK}, answer{0, api.OK}},
		{1, []int{32767}, answer{32767, api.OK}, answer{32767, api.OK}},
		{1, []int{32768}, answer{-32768, api.OK}, answer{32768, api.OK}},
		{1, []int{65535}, answer{-1, api.OK}, answer{65535, api.OK}},
		{2, []int{65535, 65534}, answer{-2, api.OK}, answer{1<<32 - 2, api.OK}},
		{2, []int{1, 0}, answer{65536, api.OK}, answer{65536, api.OK}},
		{2, []int{0, 65535}, answer{65535, api.OK}, answer{65535, api.OK}},
		{3, []int{0x1234, 0x5678, 0x9abc}, answer{0x123456789abc, api.OK}, answer{0x123456789abc, api.OK}},
		{3, []int{32768, 0, 0}, answer{-1 << 47, api.OK}, answer{1 << 47, api.OK}},
		{4, []int{32767, 65535, 65535, 65535}, answer{math.MaxInt, api.OK}, answer{math.MaxInt, api.OK}},
		{4, []int{32768, 0, 0, 0}, answer{math.MinInt, api.OK}, answer{0, api.ErrLong}},
		{4, []int{65535, 65535, 65535, 65535}, answer{-1, api.OK}, answer{0, api.ErrLong}},
		{1, []int{7, 8, 9}, answer{7, api.OK}, answer{7, api.OK}}, // more than are asked for
		{1, []int{7, -1, 65536}, answer{7, api.OK}, answer{7, api.OK}},
		{3, []int{1, 2, 3, math.MinInt}, answer{1<<32 + 2<<16 + 3, api.OK}, answer{1<<32 + 2<<16 + 3, api.OK}},
	} {
		alike(t, "Get", tell(Get(x.k, x.words...)), x.with, x.k, x.words)
		alike(t, "GetPlain", tell(GetPlain(x.k, x.words...)), x.plain, x.k, x.words)
	}
}

func TestGetIsTheChapters(t *testing.T) {
	r := rand.New(rand.NewSource(2))
	for _, c := range kinds {
		for w := range 65536 {
			c.gets(t, w)
		}
		for k := 1; k <= 4; k++ {
			for _, words := range runs(k) {
				c.gets(t, words...)
			}
			for range 20000 {
				c.gets(t, drawWords(r, k)...)
			}
		}
	}
}

// P1: of several errors the first one is told: a k, a word of the first k that may not be, too few words, what is no number.
func TestGetRefuses(t *testing.T) {
	for _, c := range kinds {
		for _, k := range noCounts {
			for _, words := range [][]int{nil, {}, {0}, {-1}, {1, 2, 3, 4, 5, 6}, {65535, 65535, 65535, 65535}} {
				alike(t, c.name, tell(c.get(k, words...)), answer{0, api.ErrArg}, k, words)
			}
		}
		for k := 1; k <= 4; k++ {
			for there := range k {
				alike(t, c.name, tell(c.get(k, make([]int, there)...)), answer{0, api.ErrShort}, k, there)
			}
			for there := 1; there <= 6; there++ {
				for at := range there {
					for _, w := range noWords {
						words := slices.Repeat([]int{65535}, there)
						words[at] = w
						want := answer{0, api.ErrArg}
						if at >= k { // it stands behind the number
							want = told(c.sign, words[:k]...)
						}
						alike(t, c.name, tell(c.get(k, words...)), want, k, words)
					}
				}
			}
		}
	}
	alike(t, "GetPlain", tell(GetPlain(4, 65535, 65535, 65535)), answer{0, api.ErrShort}, 4)
	alike(t, "GetPlain", tell(GetPlain(4, 65535, 0, 0, 0)), answer{0, api.ErrLong}, 4)
}

// Rules: what is handed in is not changed, and what is handed out is the caller's own.

func TestNumbersStayAsTheyAre(t *testing.T) {
	for _, c := range kinds {
		all := []int{9, 0, 3, 65535, -1, 70000}
		own, before := all[:4], slices.Clone(all)
		for k := range 6 {
			if words, e := c.put(k, own...); e == api.OK {
				clear(words)
			}
			c.get(k, own...)
			c.get(k, all...)
		}
		if !slices.Equal(all, before) {
			t.Errorf("%s: %v, want %v", c.name, all, before)
		}
	}
}
