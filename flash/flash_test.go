package flash

import (
	"math"
	"reflect"
	"testing"

	"rheostat/api"
)

// small is the geometry of most tests: two groups of two pages of sixteen words.
var small = api.Geometry{Groups: 2, Pages: 2, Words: 16}

// fresh makes a flash that the test can't do without.
func fresh(t *testing.T, g api.Geometry) *Flash {
	t.Helper()
	f, e := Make(g)
	if e != api.OK || f == nil {
		t.Fatalf("Make(%v): %v, %v", g, f, e)
	}
	return f
}

// told holds an error against the one that is asked for.
func told(t *testing.T, what string, got, want api.Errno) {
	t.Helper()
	if got != want {
		t.Errorf("%s: %v, want %v", what, got, want)
	}
}

// alike holds any answer against the one that is asked for; a list without members may be nil or empty.
func alike[T any](t *testing.T, what string, got, want T) {
	t.Helper()
	a, b := reflect.ValueOf(got), reflect.ValueOf(want)
	if a.Kind() == reflect.Slice && a.Len() == 0 && b.Len() == 0 {
		return
	}
	if !reflect.DeepEqual(got, want) {
		t.Errorf("%s: %v, want %v", what, got, want)
	}
}

// word reads a word, and wants it to be so.
func word(t *testing.T, f *Flash, at, want int) {
	t.Helper()
	v, e := f.Read(at)
	if e != api.OK || v != want {
		t.Errorf("Read(%d): %d, %v, want %d", at, v, e, want)
	}
}

// 1.1: Make

func TestMakeIsBlankWithoutACut(t *testing.T) {
	for _, g := range []api.Geometry{small, {Groups: 1, Pages: 1, Words: 16}, {Groups: 8, Pages: 8, Words: 1024}, {Groups: 3, Pages: 5, Words: 17}} {
		f := fresh(t, g)
		size := g.Groups * g.Pages * g.Words
		alike(t, "Size", f.Size(), size)
		alike(t, "Geometry", f.Geometry(), g)
		alike(t, "Writes", f.Writes(), 0)
		alike(t, "Since", f.Since(0), nil)
		image := f.Image()
		alike(t, "the image's length", len(image), size)
		for at, v := range image {
			if v != api.Blank {
				t.Fatalf("word %d of %v: %d", at, g, v)
			}
		}
		for page := range g.Groups * g.Pages {
			alike(t, "Erases", f.Erases(page), 0)
		}
		word(t, f, size-1, api.Blank)
		for page := range g.Groups * g.Pages {
			told(t, "an erase without a cut", f.Erase(page), api.OK)
		}
	}
}

func TestMakeRefuses(t *testing.T) {
	good := api.Geometry{Groups: 2, Pages: 2, Words: 32}
	numbers := []struct{ low, high int }{{1, api.MaxGroups}, {1, api.MaxPages}, {16, api.MaxWords}}
	for field, b := range numbers {
		for _, n := range []int{math.MinInt, -1, 0, b.low - 1, b.low, b.high, b.high + 1, math.MaxInt} {
			g := good
			*[]*int{&g.Groups, &g.Pages, &g.Words}[field] = n
			f, e := Make(g)
			if n < b.low || n > b.high {
				told(t, "Make", e, api.ErrArg)
				if f != nil {
					t.Errorf("Make(%v) hands out a flash beside its error", g)
				}
			} else if e != api.OK || f == nil {
				t.Errorf("Make(%v): %v", g, e)
			}
		}
	}
	if f, e := Make(api.Geometry{}); f != nil || e != api.ErrArg {
		t.Errorf("Make of nothing: %v, %v", f, e)
	}
}

// 1.1: Read

func TestRead(t *testing.T) {
	f := fresh(t, small)
	f.Program(0, 1, 2)
	f.Program(63, 3)
	word(t, f, 0, 1)
	word(t, f, 1, 2)
	word(t, f, 2, api.Blank)
	word(t, f, 63, 3)
	for _, at := range []int{math.MinInt, -1, 64, math.MaxInt} {
		v, e := f.Read(at)
		told(t, "Read beyond", e, api.ErrArg)
		alike(t, "the word beyond", v, 0)
	}
	alike(t, "Writes: reading is none", f.Writes(), 3)
}

// 1.1: Program

func TestProgramInOrder(t *testing.T) {
	f := fresh(t, small)
	told(t, "Program", f.Program(15, 5, 0, 65535), api.OK)
	word(t, f, 14, api.Blank)
	word(t, f, 15, 5)
	word(t, f, 16, 0)
	word(t, f, 17, 65535)
	alike(t, "the raw writes", f.Since(0), []api.Raw{{At: 15, Value: 5}, {At: 16, Value: 0}, {At: 17, Value: 65535}})
}

func TestProgramAll(t *testing.T) {
	f := fresh(t, small)
	all := make([]int, 64)
	for i := range all {
		all[i] = i
	}
	told(t, "Program of all", f.Program(0, all...), api.OK)
	alike(t, "all", f.Image(), all)
}

func TestProgramRefuses(t *testing.T) {
	cases := []struct {
		at     int
		values []int
		want   api.Errno
	}{
		{63, []int{1}, api.OK},
		{63, []int{1, 1}, api.ErrArg},
		{64, []int{1}, api.ErrArg},
		{-1, []int{1}, api.ErrArg},
		{-1, []int{1, 2}, api.ErrArg},
		{math.MaxInt, []int{1}, api.ErrArg},
		{math.MinInt, []int{1}, api.ErrArg},
		{math.MaxInt, []int{1, 2, 3}, api.ErrArg},
		{0, make([]int, 65), api.ErrArg},
		{0, []int{65535, 0}, api.OK},
		{0, []int{65536}, api.ErrArg},
		{0, []int{-1}, api.ErrArg},
		{0, []int{1, 2, 65536}, api.ErrArg},
		{0, []int{math.MinInt, 1}, api.ErrArg},
		{0, []int{math.MaxInt}, api.ErrArg},
		{0, nil, api.OK},
		{63, []int{}, api.OK},
		{64, nil, api.OK},
		{65, nil, api.ErrArg},
		{-1, nil, api.ErrArg},
		{math.MinInt, nil, api.ErrArg},
		{math.MaxInt, nil, api.ErrArg},
	}
	for _, c := range cases {
		f := fresh(t, small)
		told(t, "Program", f.Program(c.at, c.values...), c.want)
		if c.want != api.OK {
			alike(t, "Writes behind a refusal", f.Writes(), 0)
			alike(t, "the image behind a refusal", f.Image(), fresh(t, small).Image())
		} else {
			alike(t, "Writes", f.Writes(), len(c.values))
		}
	}
}

func TestProgramAsManyAsThePowerLets(t *testing.T) {
	for n := range 5 {
		f := fresh(t, small)
		f.Cut(n)
		want := api.OK
		if n < 3 {
			want = api.ErrPower
		}
		told(t, "Program", f.Program(10, 1, 2, 3), want)
		f.Power()
		for i := range 3 {
			v := api.Blank
			if i < n {
				v = i + 1
			}
			word(t, f, 10+i, v)
		}
		alike(t, "Writes", f.Writes(), min(n, 3))
	}
}

// 1.1: Erase

func TestErase(t *testing.T) {
	f := fresh(t, small)
	f.Program(0, make([]int, 64)...)
	told(t, "Erase", f.Erase(1), api.OK)
	for at := range 64 {
		if at/16 == 1 {
			word(t, f, at, api.Blank)
		} else {
			word(t, f, at, 0)
		}
	}
	raws := f.Since(64)
	alike(t, "how many raw writes", len(raws), 16)
	for i, r := range raws {
		alike(t, "an erase's raw write", r, api.Raw{Erase: true, At: 16 + i, Value: 65535})
	}
	for page, want := range []int{0, 1, 0, 0} {
		alike(t, "Erases", f.Erases(page), want)
	}
}

func TestEraseRefuses(t *testing.T) {
	f := fresh(t, small)
	f.Program(0, 7)
	for _, page := range []int{math.MinInt, -1, 4, math.MaxInt} {
		told(t, "Erase", f.Erase(page), api.ErrArg)
	}
	alike(t, "Writes", f.Writes(), 1)
	word(t, f, 0, 7)
	told(t, "Erase of the last page", f.Erase(3), api.OK)
}

func TestEraseAsManyAsThePowerLets(t *testing.T) {
	for n := range 18 {
		f := fresh(t, small)
		f.Program(0, make([]int, 64)...)
		f.Cut(n)
		want := api.OK
		if n < 16 {
			want = api.ErrPower
		}
		told(t, "Erase", f.Erase(2), want)
		f.Power()
		for at := range 64 {
			if at >= 32 && at < 32+min(n, 16) {
				word(t, f, at, api.Blank)
			} else {
				word(t, f, at, 0)
			}
		}
		alike(t, "Erases: the first word tells", f.Erases(2), min(n, 1))
		alike(t, "Writes", f.Writes(), 64+min(n, 16))
	}
}

// 1.1 and P1: the power is gone, and which error is told first

func TestPowerIsGoneTillItIsOn(t *testing.T) {
	f := fresh(t, small)
	f.Cut(0)
	told(t, "Read ahead of the cut", readError(f, 0), api.OK)
	told(t, "Program of nothing comes to no raw write", f.Program(0), api.OK)
	told(t, "Read still", readError(f, 0), api.OK)
	told(t, "Program", f.Program(0, 1), api.ErrPower)
	for range 2 {
		told(t, "Read", readError(f, 0), api.ErrPower)
		told(t, "Program", f.Program(0, 1), api.ErrPower)
		told(t, "Program of nothing", f.Program(0), api.ErrPower)
		told(t, "Erase", f.Erase(0), api.ErrPower)
		f.Cut(-1) // sets a cut, and no power
		f.Cut(5)
	}
	told(t, "Read of no word", readError(f, 64), api.ErrArg)
	told(t, "Program of no word", f.Program(64, 1), api.ErrArg)
	told(t, "Program of no value", f.Program(0, -1), api.ErrArg)
	told(t, "Program of nothing nowhere", f.Program(65), api.ErrArg)
	told(t, "Erase of no page", f.Erase(4), api.ErrArg)
	alike(t, "Writes", f.Writes(), 0)
	told(t, "Power", f.Power(), api.OK)
	word(t, f, 0, api.Blank)
	told(t, "Erase", f.Erase(0), api.OK)
}

// readError is Read's error; beside one the word is 0.
func readError(f *Flash, at int) api.Errno {
	v, e := f.Read(at)
	if e != api.OK && v != 0 {
		return -1
	}
	return e
}

// 1.2: Cut, Power, Load

func TestCutCountsFromItsCallOn(t *testing.T) {
	f := fresh(t, small)
	f.Program(0, 1, 2, 3)
	told(t, "Cut", f.Cut(2), api.OK)
	told(t, "Program", f.Program(3, 4), api.OK)
	told(t, "Program", f.Program(4, 5), api.OK)
	word(t, f, 4, 5)
	told(t, "Program", f.Program(5, 6), api.ErrPower)
	f.Power()
	word(t, f, 5, api.Blank)
	alike(t, "Writes", f.Writes(), 5)
}

func TestCutAnew(t *testing.T) {
	f := fresh(t, small)
	f.Cut(1)
	f.Cut(3)
	told(t, "Program behind a later cut", f.Program(0, 1, 2, 3), api.OK)
	f.Cut(1)
	for _, n := range []int{-1, math.MinInt, math.MaxInt} {
		f.Cut(0)
		told(t, "Cut", f.Cut(n), api.OK)
		told(t, "Erase without a cut", f.Erase(0), api.OK)
	}
	f.Cut(4)
	told(t, "Program", f.Program(0, 1, 2), api.OK)
	f.Cut(1)
	told(t, "Program", f.Program(2, 1, 2), api.ErrPower)
}

func TestPowerTakesTheCutAway(t *testing.T) {
	f := fresh(t, small)
	f.Cut(2)
	told(t, "Power, though it is on", f.Power(), api.OK)
	told(t, "Erase", f.Erase(0), api.OK)
	f.Cut(2)
	told(t, "Erase", f.Erase(1), api.ErrPower)
	f.Cut(1)
	f.Power()
	told(t, "Erase", f.Erase(1), api.OK)
}

func TestLoad(t *testing.T) {
	f := fresh(t, small)
	f.Program(0, 0)
	f.Cut(1)
	image := make([]int, 64)
	for i := range image {
		image[i] = 1000 * i
	}
	image[63] = 65535
	told(t, "Load", f.Load(image), api.OK)
	alike(t, "the image", f.Image(), image)
	alike(t, "Writes: loading is none", f.Writes(), 1)
	alike(t, "Since", f.Since(0), []api.Raw{{At: 0, Value: 0}})
	alike(t, "Erases", f.Erases(0), 0)
	image[3] = 7
	word(t, f, 3, 3000)
	told(t, "Program: loading takes nothing off the cut", f.Program(5, 0), api.OK)
	told(t, "Program: nor does it set it", f.Program(5, 0), api.ErrPower)
	told(t, "Load without power", f.Load(image), api.OK)
	told(t, "Read: loading gives no power", readError(f, 0), api.ErrPower)
	f.Power()
	word(t, f, 3, 7)
	word(t, f, 5, 5000)
}

func TestLoadRefuses(t *testing.T) {
	f := fresh(t, small)
	f.Program(0, 9)
	before := f.Image()
	wrong := func(at, v int) []int {
		l := f.Image()
		for i := range l {
			l[i] = 1
		}
		l[at] = v
		return l
	}
	for _, image := range [][]int{nil, {}, make([]int, 63), make([]int, 65), wrong(0, -1), wrong(63, 65536), wrong(63, math.MinInt), wrong(5, math.MaxInt)} {
		told(t, "Load", f.Load(image), api.ErrArg)
		alike(t, "the image behind a refusal", f.Image(), before)
	}
}

// 1.3: Image, Geometry, Size, Writes, Erases, Since

func TestImageIsTheCallersOwn(t *testing.T) {
	f := fresh(t, small)
	image := f.Image()
	image[0] = 5
	word(t, f, 0, api.Blank)
	f.Program(1, 6)
	alike(t, "the image of before", image[1], api.Blank)
	f.Cut(0)
	f.Program(0, 0)
	alike(t, "the image without power", f.Image()[1], 6)
}

func TestErasesCountsFirstWords(t *testing.T) {
	f := fresh(t, small)
	f.Program(0, 1, 2, 3)
	alike(t, "Erases: programming is none", f.Erases(0), 0)
	for range 3 {
		f.Erase(2)
	}
	f.Erase(3)
	f.Cut(0)
	f.Erase(1)
	f.Power()
	f.Cut(1)
	f.Erase(0)
	for page, want := range []int{1, 0, 3, 1} {
		alike(t, "Erases", f.Erases(page), want)
	}
	for _, page := range []int{math.MinInt, -1, 4, math.MaxInt} {
		alike(t, "Erases of no page", f.Erases(page), 0)
	}
}

func TestSince(t *testing.T) {
	f := fresh(t, small)
	f.Program(0, 255)
	f.Program(0, 65280) // the word is 0 now: what was asked is told
	f.Cut(1)
	f.Erase(1)
	f.Power()
	f.Program(16, 65535) // changes no bit, and is a raw write all the same
	all := []api.Raw{{At: 0, Value: 255}, {At: 0, Value: 65280}, {Erase: true, At: 16, Value: 65535}, {At: 16, Value: 65535}}
	for n := range 5 {
		alike(t, "Since", f.Since(n), all[n:])
	}
	alike(t, "Since below 0", f.Since(-1), all)
	alike(t, "Since far below 0", f.Since(math.MinInt), all)
	alike(t, "Since beyond", f.Since(5), nil)
	alike(t, "Since far beyond", f.Since(math.MaxInt), nil)
	f.Since(0)[0] = api.Raw{At: 9}
	_ = append(f.Since(0)[:1], api.Raw{At: 9})
	alike(t, "Since: what is handed out is the caller's own", f.Since(0), all)
	alike(t, "Writes", f.Writes(), 4)
	f.Cut(0)
	f.Program(0, 0)
	alike(t, "Since without power", f.Since(0), all)
}

// Rules: what is handed in is not changed, nor kept.

func TestValuesAreNotKept(t *testing.T) {
	f := fresh(t, small)
	values := []int{1, 2, 3}
	f.Program(0, 2, 2, 2)
	f.Program(0, values...)
	alike(t, "the values", values, []int{1, 2, 3})
	values[2] = 0
	word(t, f, 2, 2)
	alike(t, "the raw write", f.Since(5), []api.Raw{{At: 2, Value: 3}})
}

// P1 and the second rule: a flash that no call made

func TestNoFlash(t *testing.T) {
	for _, f := range []*Flash{nil, {}} {
		for _, n := range []int{math.MinInt, -1, 0, 1, math.MaxInt} {
			told(t, "Read", readError(f, n), api.ErrNil)
			told(t, "Program", f.Program(n), api.ErrNil)
			told(t, "Program", f.Program(n, n, n), api.ErrNil)
			told(t, "Erase", f.Erase(n), api.ErrNil)
			told(t, "Cut", f.Cut(n), api.ErrNil)
			told(t, "Power", f.Power(), api.ErrNil)
			told(t, "Load", f.Load([]int{n}), api.ErrNil)
			alike(t, "Erases", f.Erases(n), 0)
			alike(t, "Since", f.Since(n), nil)
		}
		told(t, "Load of nothing", f.Load(nil), api.ErrNil)
		alike(t, "Image", f.Image(), nil)
		alike(t, "Geometry", f.Geometry(), api.Geometry{})
		alike(t, "Size", f.Size(), 0)
		alike(t, "Writes", f.Writes(), 0)
	}
}

// P2: a call that is refused changes nothing that a later call could tell.

func TestRefusedChangesNothing(t *testing.T) {
	refused := []func(f *Flash) api.Errno{
		func(f *Flash) api.Errno { return readError(f, 64) },
		func(f *Flash) api.Errno { return f.Program(0, 1, -1) },
		func(f *Flash) api.Errno { return f.Program(63, 1, 1) },
		func(f *Flash) api.Errno { return f.Program(65) },
		func(f *Flash) api.Errno { return f.Erase(4) },
		func(f *Flash) api.Errno { return f.Load(make([]int, 63)) },
	}
	for _, call := range refused {
		f, g := fresh(t, small), fresh(t, small)
		for _, x := range []*Flash{f, g} {
			x.Program(0, 3, 4)
			x.Erase(1)
			x.Cut(1)
		}
		told(t, "the call", call(f), api.ErrArg)
		same(t, f, g)
		told(t, "Program: one raw write is done yet", f.Program(2, 5), api.OK)
		g.Program(2, 5)
		same(t, f, g)
		told(t, "Program: and no more", f.Program(3, 5), api.ErrPower)
		told(t, "the call without power", call(f), api.ErrArg)
		told(t, "Read", readError(f, 0), api.ErrPower)
	}
}

// same holds all that a flash tells against another one.
func same(t *testing.T, f, g *Flash) {
	t.Helper()
	alike(t, "Image", f.Image(), g.Image())
	alike(t, "Geometry", f.Geometry(), g.Geometry())
	alike(t, "Writes", f.Writes(), g.Writes())
	alike(t, "Since", f.Since(0), g.Since(0))
	for page := range f.Geometry().Groups * f.Geometry().Pages {
		alike(t, "Erases", f.Erases(page), g.Erases(page))
	}
	alike(t, "whether there is power", readError(f, 0), readError(g, 0))
}
