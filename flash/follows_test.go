package flash

import (
	"math/rand"
	"testing"

	"rheostat/api"
)

// act is a call of a script: values programmed from At on, or (erase) a page erased.
type act struct {
	erase  bool
	at     int
	values []int
}

// script makes a script of calls that may be; the same seed makes the same one.
func script(seed int64, g api.Geometry, calls int) []act {
	r := rand.New(rand.NewSource(seed))
	pages := g.Groups * g.Pages
	var s []act
	for range calls {
		if r.Intn(4) == 0 {
			s = append(s, act{erase: true, at: r.Intn(pages)})
			continue
		}
		a := act{at: r.Intn(pages * g.Words)}
		for range min(r.Intn(6), pages*g.Words-a.at) {
			a.values = append(a.values, r.Intn(65536))
		}
		s = append(s, a)
	}
	return s
}

// do does a call, and answers its error.
func (a act) do(f *Flash) api.Errno {
	if a.erase {
		return f.Erase(a.at)
	}
	return f.Program(a.at, a.values...)
}

// raws is what raw writes a script asks for, told by the chapter's words alone.
func raws(g api.Geometry, s []act) []api.Raw {
	var l []api.Raw
	for _, a := range s {
		for i := 0; a.erase && i < g.Words; i++ {
			l = append(l, api.Raw{Erase: true, At: a.at*g.Words + i, Value: 65535})
		}
		for i, v := range a.values {
			l = append(l, api.Raw{At: a.at + i, Value: v})
		}
	}
	return l
}

// replay is the image behind raw writes that are done to blank words.
func replay(size int, l []api.Raw) []int {
	image := make([]int, size)
	for i := range image {
		image[i] = 65535
	}
	for _, r := range l {
		for bit := 1; bit < 65536; bit *= 2 {
			if r.Erase {
				image[r.At] |= bit
			} else if r.Value&bit == 0 {
				image[r.At] &^= bit
			}
		}
	}
	return image
}

// geometries are those of the scripts, the last one not of a page's least size.
var geometries = []api.Geometry{{Groups: 1, Pages: 1, Words: 16}, {Groups: 2, Pages: 1, Words: 16}, {Groups: 2, Pages: 3, Words: 19}}

// 1.4: but by an erase no bit of a word is ever set.
func TestBits(t *testing.T) {
	f := fresh(t, small)
	for _, a := range []int{0, 1, 3840, 4080, 21930, 43605, 65280, 65535} {
		for _, b := range []int{0, 1, 3840, 4080, 21930, 43605, 65280, 65535} {
			f.Erase(0)
			f.Program(0, a)
			word(t, f, 0, a)
			f.Program(0, b)
			word(t, f, 0, a&b)
		}
	}
	for seed, g := range geometries {
		f := fresh(t, g)
		for _, a := range script(int64(seed), g, 300) {
			before := f.Image()
			a.do(f)
			for at, v := range f.Image() {
				if v&^before[at] != 0 && !(a.erase && at/g.Words == a.at) {
					t.Fatalf("%v: word %d was %d and is %d", a, at, before[at], v)
				}
			}
		}
	}
}

// The chapter's example.
func TestExample(t *testing.T) {
	f := fresh(t, small)
	f.Program(0, 65280)
	f.Program(0, 4080)
	word(t, f, 0, 3840)
}

// 1.5: with a cut of n the flash is as it would be behind the first n raw writes, whichever call they are of.
func TestCutAnywhere(t *testing.T) {
	for seed, g := range geometries {
		s := script(int64(seed), g, 12)
		all := raws(g, s)
		for n := range len(all) + 2 {
			f := fresh(t, g)
			f.Cut(n)
			gone := cutShort(t, f, s, n)
			alike(t, "whether the power is gone", gone, n < len(all))
			f.Power()
			f.Cut(-1)
			first := all[:min(n, len(all))]
			alike(t, "Image", f.Image(), replay(f.Size(), first))
			alike(t, "Since", f.Since(0), first)
			alike(t, "Writes", f.Writes(), len(first))
			for page := range g.Groups * g.Pages {
				alike(t, "Erases", f.Erases(page), firstWords(first, page*g.Words))
			}
		}
	}
}

// cutShort does a script with a cut of n and tells whether the power went; from that raw write on all calls are to answer so.
func cutShort(t *testing.T, f *Flash, s []act, n int) bool {
	t.Helper()
	asked := 0
	for _, a := range s {
		asked += len(raws(f.Geometry(), []act{a}))
		want := api.OK
		if asked > n {
			want = api.ErrPower
		}
		told(t, "a call with a cut", a.do(f), want)
		told(t, "Read with a cut", readError(f, 0), want)
	}
	return asked > n
}

// firstWords counts how many raw writes set a place to Blank.
func firstWords(l []api.Raw, at int) int {
	n := 0
	for _, r := range l {
		if r.Erase && r.At == at {
			n++
		}
	}
	return n
}

// 1.5: cuts again and again, with power between, take each only what comes behind them.
func TestCutAgainAndAgain(t *testing.T) {
	for n := range 20 {
		g := geometries[1]
		f := fresh(t, g)
		var want []api.Raw
		for _, a := range script(7, g, 60) {
			l := raws(g, []act{a})
			f.Cut(n)
			a.do(f)
			f.Power()
			want = append(want, l[:min(n, len(l))]...)
		}
		alike(t, "Since", f.Since(0), want)
		alike(t, "Image", f.Image(), replay(f.Size(), want))
	}
}

// 1.6: the raw writes, done to a blank flash, make its image.
func TestRawWritesMakeTheImage(t *testing.T) {
	for seed, g := range geometries {
		f := fresh(t, g)
		for _, a := range script(int64(seed)+100, g, 300) {
			done := f.Writes()
			told(t, "a call", a.do(f), api.OK)
			alike(t, "Since", f.Since(done), raws(g, []act{a}))
			alike(t, "Image", f.Image(), replay(f.Size(), f.Since(0)))
			alike(t, "Writes", f.Writes(), len(f.Since(-1)))
		}
	}
}

// 1.7: erasing makes a page blank, and no other one.
func TestEraseOnePage(t *testing.T) {
	for seed, g := range geometries {
		f := fresh(t, g)
		pages := g.Groups * g.Pages
		for page := range pages {
			for _, a := range script(int64(seed*10+page), g, 60) {
				a.do(f)
			}
			want := f.Image()
			for i := range g.Words {
				want[page*g.Words+i] = 65535
			}
			told(t, "Erase", f.Erase(page), api.OK)
			alike(t, "Image", f.Image(), want)
		}
	}
}
