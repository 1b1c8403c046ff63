package wear

import (
	"math"
	"slices"
	"testing"

	"rheostat/api"
	"rheostat/flash"
)

// small is the geometry of most tests: three groups of two pages of sixteen words.
var small = api.Geometry{Groups: 3, Pages: 2, Words: 16}

// geometries are those of other tests, the least and the greatest one among them.
var geometries = []api.Geometry{small, {Groups: 1, Pages: 1, Words: 16}, {Groups: 2, Pages: 3, Words: 19}, {Groups: 8, Pages: 1, Words: 16}, {Groups: 1, Pages: 8, Words: 33}}

// nowhere are numbers of which no flash has a group or a page.
var nowhere = []int{-1, -2, -16, math.MinInt, math.MinInt + 1, 64, 65, 65536, 1 << 61, 1 << 62, math.MaxInt}

// noFlashes are flashes that no call made.
func noFlashes() []*flash.Flash { return []*flash.Flash{nil, {}} }

// fresh makes a flash that the test can't do without.
func fresh(t *testing.T, g api.Geometry) *flash.Flash {
	t.Helper()
	f, e := flash.Make(g)
	if e != api.OK {
		t.Fatalf("Make(%v): %v", g, e)
	}
	return f
}

// numbered makes a flash of which each word is its place, and no word of the first 65535 is blank.
func numbered(t *testing.T, g api.Geometry) *flash.Flash {
	t.Helper()
	f := fresh(t, g)
	image := f.Image()
	for at := range image {
		image[at] = at % api.Blank
	}
	f.Load(image)
	return f
}

// gone makes a flash of which the power is gone; its words are the places, but those of blank pages.
func gone(t *testing.T, g api.Geometry, blank bool) *flash.Flash {
	t.Helper()
	f := numbered(t, g)
	if blank {
		f = fresh(t, g)
	}
	f.Cut(0)
	if e := f.Program(0, 0); e != api.ErrPower {
		t.Fatalf("Program behind the cut: %v", e)
	}
	return f
}

// told holds an error against the one that is asked for.
func told(t *testing.T, what string, got, want api.Errno) {
	t.Helper()
	if got != want {
		t.Fatalf("%s: %v, want %v", what, got, want)
	}
}

// list holds a list against the one that is asked for.
func list(t *testing.T, what string, got, want []int) {
	t.Helper()
	if !slices.Equal(got, want) {
		t.Fatalf("%s: %v, want %v", what, got, want)
	}
}

// cleans wants a group to be cleaned, with so many pages erased.
func cleans(t *testing.T, want int, f *flash.Flash, g int) {
	t.Helper()
	if n, e := Clean(f, g); e != api.OK || n != want {
		t.Fatalf("Clean(%d): %d, %v, want %d", g, n, e, want)
	}
}

// isBlank wants a page to be blank, or not.
func isBlank(t *testing.T, want bool, f *flash.Flash, page int) {
	t.Helper()
	if is, e := Blank(f, page); e != api.OK || is != want {
		t.Fatalf("Blank(%d): %t, %v, want %t", page, is, e, want)
	}
}

// refused wants all calls that read or clean to tell this error of a group and of a page, and nothing else.
func refused(t *testing.T, want api.Errno, f *flash.Flash, g, page int) {
	t.Helper()
	if l, e := Words(f, g); e != want || len(l) != 0 {
		t.Fatalf("Words(%d): %v, %v, want %v", g, l, e, want)
	}
	if is, e := Blank(f, page); e != want || is {
		t.Fatalf("Blank(%d): %t, %v, want %v", page, is, e, want)
	}
	if n, e := Clean(f, g); e != want || n != 0 {
		t.Fatalf("Clean(%d): %d, %v, want %v", g, n, e, want)
	}
}

// noPages wants Pages to tell this error, and nothing else.
func noPages(t *testing.T, want api.Errno, f *flash.Flash, g int) {
	t.Helper()
	if l, e := Pages(f, g); e != want || len(l) != 0 {
		t.Fatalf("Pages(%d): %v, %v, want %v", g, l, e, want)
	}
}

// The chapter's example.
func TestExample(t *testing.T) {
	f := fresh(t, api.Geometry{Groups: 2, Pages: 2, Words: 16})
	f.Program(50, 1)
	cleans(t, 1, f, 1)
	list(t, "Counts", Counts(f), []int{0, 0, 0, 1})
}

// 8.1: Pages and Words

func TestPages(t *testing.T) {
	for _, g := range append(geometries, api.Geometry{Groups: 8, Pages: 8, Words: 1024}) {
		f := numbered(t, g)
		page := 0
		for group := range g.Groups {
			var want []int
			for range g.Pages {
				want = append(want, page)
				page++
			}
			l, e := Pages(f, group)
			told(t, "Pages", e, api.OK)
			list(t, "Pages", l, want)
		}
	}
}

func TestWords(t *testing.T) {
	for _, g := range append(geometries, api.Geometry{Groups: 8, Pages: 8, Words: 1024}) {
		f := numbered(t, g)
		f.Program(f.Size()-1, 0)
		image, own := f.Image(), g.Pages*g.Words
		for group := range g.Groups {
			l, e := Words(f, group)
			told(t, "Words", e, api.OK)
			list(t, "Words", l, image[group*own:(group+1)*own])
		}
	}
}

// Words are told as they are when they are asked for.
func TestWordsGoWithTheFlash(t *testing.T) {
	f := fresh(t, small)
	want := slices.Repeat([]int{api.Blank}, 32)
	for _, at := range []int{32, 47, 48, 63} {
		f.Program(at, at)
		want[at-32] = at
		l, _ := Words(f, 1)
		list(t, "Words", l, want)
	}
	f.Erase(2)
	l, _ := Words(f, 1)
	list(t, "Words", l, append(slices.Repeat([]int{api.Blank}, 16), want[16:]...))
}

// 8.2: Blank and Clean

func TestBlank(t *testing.T) {
	for _, g := range geometries {
		pages := g.Groups * g.Pages
		for at := range pages * g.Words {
			f := fresh(t, g)
			f.Program(at, api.Blank) // is no change
			for page := range pages {
				isBlank(t, true, f, page)
			}
			f.Program(at, api.Blank-1<<(at%16))
			for page := range pages {
				isBlank(t, page != at/g.Words, f, page)
			}
			f.Erase(at / g.Words)
			isBlank(t, true, f, at/g.Words)
		}
	}
}

// Wherever a page's words are not blank, it is erased, and no other page is.
func TestCleanOneWord(t *testing.T) {
	for _, g := range geometries {
		pages := g.Groups * g.Pages
		for at := range pages * g.Words {
			f := fresh(t, g)
			f.Program(at, api.Blank-1<<(at%16))
			page := at / g.Words
			for group := range g.Groups {
				want := 0
				if group == page/g.Pages {
					want = 1
				}
				cleans(t, want, f, group)
			}
			counts := make([]int, pages)
			counts[page] = 1
			list(t, "Counts", Counts(f), counts)
			list(t, "the image", f.Image(), fresh(t, g).Image())
		}
	}
}

// Of all sets of pages that are not blank these alone are erased, in order, each by the raw writes of one erase.
func TestCleanInOrder(t *testing.T) {
	g := api.Geometry{Groups: 2, Pages: 4, Words: 16}
	for set := range 16 {
		f := fresh(t, g)
		var want []api.Raw
		used := 0
		for i := range 4 {
			if set>>i&1 == 0 {
				continue
			}
			used++
			page := 4 + i
			f.Program(page*16+3*i, 7*i)
			for at := page * 16; at < page*16+16; at++ {
				want = append(want, api.Raw{Erase: true, At: at, Value: 65535})
			}
		}
		cleans(t, used, f, 1)
		if got := f.Since(used); !slices.Equal(got, want) {
			t.Fatalf("the raw writes: %v, want %v", got, want)
		}
	}
}

// A cut that has not come is no error: a blank group comes to no raw write.
func TestCleanBlankAheadOfACut(t *testing.T) {
	f := fresh(t, small)
	f.Cut(0)
	cleans(t, 0, f, 1)
	f.Cut(16)
	f.Load(numbered(t, small).Image())
	_, e := Clean(f, 1)
	told(t, "Clean of two pages with a cut behind the first", e, api.ErrPower)
}

// 8.3: Counts and Uneven

func TestCounts(t *testing.T) {
	for _, g := range append(geometries, api.Geometry{Groups: 8, Pages: 8, Words: 16}) {
		f := fresh(t, g)
		want := make([]int, g.Groups*g.Pages)
		list(t, "Counts", Counts(f), want)
		for page := range want {
			for range page % 5 {
				f.Erase(page)
				want[page]++
			}
		}
		list(t, "Counts", Counts(f), want)
		f.Cut(1)
		f.Erase(0)
		want[0]++
		list(t, "Counts: the first word tells, and no power is asked for", Counts(f), want)
		f.Power()
		f.Cut(0)
		f.Erase(0)
		list(t, "Counts: no word was set", Counts(f), want)
	}
}

func TestUneven(t *testing.T) {
	cases := []struct {
		want   int
		counts []int
	}{
		{0, nil}, {0, []int{}}, {0, []int{0}}, {0, []int{7}}, {0, []int{-7}}, {0, []int{math.MinInt}}, {0, []int{math.MaxInt}},
		{0, []int{3, 3, 3}}, {1, []int{3, 4, 3}}, {1, []int{4, 3}}, {1, []int{3, 4}}, {9, []int{1, 10, 5}}, {9, []int{5, 10, 1}}, {9, []int{10, 1, 5}},
		{12, []int{5, -7}}, {4, []int{-3, -7}}, {7, []int{0, -7}}, {7, []int{0, 7}},
		{math.MaxInt, []int{0, math.MaxInt}}, {math.MaxInt, []int{-1, math.MinInt}}, {math.MaxInt, []int{-1, math.MinInt, -9}}, {math.MinInt + 5, []int{math.MinInt, 5, -1, -9}},
		{math.MinInt, []int{math.MaxInt, -1}}, {math.MinInt, []int{0, math.MinInt}}, {math.MinInt + 1, []int{1, math.MinInt}}, {math.MinInt + 4, []int{-5, math.MaxInt}}, // gone round
		{-1, []int{math.MinInt, math.MaxInt}}, {-1, []int{math.MaxInt, 0, math.MinInt}}, {-2, []int{math.MaxInt, math.MinInt + 1}},
	}
	for _, c := range cases {
		before := slices.Clone(c.counts)
		if got := Uneven(c.counts...); got != c.want {
			t.Errorf("Uneven(%v): %d, want %d", c.counts, got, c.want)
		}
		list(t, "the counts", c.counts, before)
	}
	if got := Uneven(append(make([]int, 100000), 3)...); got != 3 { // no bound is named
		t.Errorf("Uneven of many: %d", got)
	}
}

// P1: the errors, and their order

func TestNoFlash(t *testing.T) {
	for _, f := range noFlashes() {
		for _, n := range append([]int{0, 1, 63}, nowhere...) {
			refused(t, api.ErrNil, f, n, n)
			noPages(t, api.ErrNil, f, n)
		}
		list(t, "Counts", Counts(f), nil)
	}
}

func TestNoGroupNoPage(t *testing.T) {
	for _, g := range append(geometries, api.Geometry{Groups: 8, Pages: 8, Words: 16}) {
		for _, f := range []*flash.Flash{fresh(t, g), numbered(t, g), gone(t, g, false), gone(t, g, true)} {
			before, writes := f.Image(), f.Writes()
			pages := g.Groups * g.Pages
			for _, more := range append([]int{0, 1}, nowhere...) {
				group, page := more, more
				if more >= 0 && more < math.MaxInt-pages {
					group, page = g.Groups+more, pages+more
				}
				refused(t, api.ErrArg, f, group, page)
				noPages(t, api.ErrArg, f, group)
			}
			list(t, "the image behind refusals", f.Image(), before)
			if f.Writes() != writes {
				t.Errorf("%d raw writes, and %d ahead of refusals", f.Writes(), writes)
			}
		}
	}
}

// Without power nothing is read, be it blank or not; what is told without reading is told.
func TestNoPower(t *testing.T) {
	for _, blank := range []bool{false, true} {
		f := gone(t, small, blank)
		before := f.Image()
		for page := range 6 {
			refused(t, api.ErrPower, f, page/2, page)
			l, e := Pages(f, page/2)
			told(t, "Pages", e, api.OK)
			list(t, "Pages", l, []int{page / 2 * 2, page/2*2 + 1})
		}
		list(t, "Counts", Counts(f), make([]int, 6))
		list(t, "the image", f.Image(), before)
		f.Power()
		for page := range 6 {
			isBlank(t, blank, f, page)
		}
	}
}

// Rules: nothing but Clean writes, what is handed out is the caller's own, and nothing is kept of it.
func TestHandedOut(t *testing.T) {
	f := numbered(t, small)
	f.Erase(3)
	f.Cut(0)
	before := f.Image()
	for range 2 {
		words, _ := Words(f, 1)
		pages, _ := Pages(f, 1)
		counts := Counts(f)
		isBlank(t, true, f, 3)
		isBlank(t, false, f, 2)
		list(t, "Words", words, before[32:64])
		list(t, "Pages", pages, []int{2, 3})
		list(t, "Counts", counts, []int{0, 0, 0, 1, 0, 0})
		for _, l := range [][]int{words, pages, counts} {
			clear(l[:cap(l)])
		}
		list(t, "the image", f.Image(), before)
	}
	if f.Writes() != 16 {
		t.Errorf("%d raw writes", f.Writes())
	}
}
