package wear

import (
	"math"
	"math/rand"
	"slices"
	"testing"

	"rheostat/api"
	"rheostat/flash"
)

// used makes a flash of which some pages are blank, some have a word that is not, and some have many.
func used(t *testing.T, r *rand.Rand, g api.Geometry) *flash.Flash {
	t.Helper()
	f := fresh(t, g)
	for page := range g.Groups * g.Pages {
		for range [...]int{0, 0, 1, 2, 3 * g.Words}[r.Intn(5)] {
			f.Program(page*g.Words+r.Intn(g.Words), r.Intn(65536))
		}
	}
	return f
}

// blankPages tells of each page of an image whether it is blank.
func blankPages(g api.Geometry, image []int) []bool {
	var l []bool
	for own := range slices.Chunk(image, g.Words) {
		l = append(l, !slices.ContainsFunc(own, func(w int) bool { return w != 65535 }))
	}
	return l
}

// cleaned is an image with a group that is blank, and how many of the group's pages were not.
func cleaned(g api.Geometry, image []int, group int) ([]int, int) {
	erased := 0
	for i, is := range blankPages(g, image)[group*g.Pages : (group+1)*g.Pages] {
		if !is {
			erased++
		}
		for at := range g.Words {
			image[(group*g.Pages+i)*g.Words+at] = 65535
		}
	}
	return image, erased
}

// 8.4: a cleaned group is blank, and all others are as they were; cleaned again nothing is erased.
func TestCleanedIsBlank(t *testing.T) {
	r := rand.New(rand.NewSource(1))
	for _, g := range geometries {
		for range 60 {
			f := used(t, r, g)
			for range 4 {
				group := r.Intn(g.Groups)
				was, counts := blankPages(g, f.Image()), Counts(f)
				want, erased := cleaned(g, f.Image(), group)
				cleans(t, erased, f, group)
				list(t, "the image", f.Image(), want)
				for page := group * g.Pages; page < (group+1)*g.Pages; page++ {
					isBlank(t, true, f, page)
					if !was[page] {
						counts[page]++
					}
				}
				list(t, "Counts", Counts(f), counts)
				writes := f.Writes()
				cleans(t, 0, f, group)
				if f.Writes() != writes {
					t.Fatal("a group that is blank was written to")
				}
				f.Program(r.Intn(f.Size()), r.Intn(65536))
			}
		}
	}
}

// twin makes a flash with the words of another one, and nothing else of it.
func twin(t *testing.T, f *flash.Flash) *flash.Flash {
	t.Helper()
	other := fresh(t, f.Geometry())
	told(t, "Load", other.Load(f.Image()), api.OK)
	return other
}

// 8.5: whichever raw write a cut takes, what is done are the first ones; cleaned again the group is blank.
func TestCleanCutAnywhere(t *testing.T) {
	r := rand.New(rand.NewSource(2))
	for _, g := range geometries {
		for range 4 {
			start, group := used(t, r, g), r.Intn(g.Groups)
			uncut := twin(t, start)
			Clean(uncut, group)
			all := uncut.Since(0)
			was := blankPages(g, start.Image())
			for n := range len(all) + 1 {
				f := twin(t, start)
				f.Cut(n)
				done, e := Clean(f, group)
				if cut := n < len(all); cut != (e == api.ErrPower) || cut && done != 0 || !slices.Equal(f.Since(0), all[:n]) {
					t.Fatalf("Clean with a cut of %d: %d, %v, %v", n, done, e, f.Since(0))
				}
				f.Power()
				want, again := cleaned(g, f.Image(), group)
				cleans(t, again, f, group)
				list(t, "the image", f.Image(), want)
				list(t, "the image of both", f.Image(), uncut.Image())
				erasedOnce(t, f, was, group, 1)
			}
		}
	}
}

// erasedOnce wants each page of a group that was not blank to have been erased once, and once more for each cut at most, and no other page at all.
func erasedOnce(t *testing.T, f *flash.Flash, was []bool, group, cuts int) {
	t.Helper()
	more := 0
	for page, n := range Counts(f) {
		if was[page] || page/f.Geometry().Pages != group {
			if n != 0 {
				t.Fatalf("page %d was erased %d times", page, n)
			}
			continue
		}
		if n < 1 || n > 1+cuts {
			t.Fatalf("page %d was erased %d times with %d cuts", page, n, cuts)
		}
		more += n - 1
	}
	if more > cuts { // a cut takes one page's erase
		t.Fatalf("%d erases more than pages, with %d cuts", more, cuts)
	}
}

// 8.5: with cuts again and again.
func TestCleanCutAgainAndAgain(t *testing.T) {
	r := rand.New(rand.NewSource(3))
	for _, g := range geometries {
		for range 60 {
			f, group, cuts := twin(t, used(t, r, g)), r.Intn(g.Groups), 0
			was := blankPages(g, f.Image())
			want, _ := cleaned(g, f.Image(), group)
			for {
				f.Cut(r.Intn(g.Words * (1 + g.Pages)))
				n, e := Clean(f, group)
				f.Power()
				if e == api.OK {
					break
				}
				cuts++
				if e != api.ErrPower || n != 0 || cuts > 10000 {
					t.Fatalf("Clean: %d, %v with %d cuts", n, e, cuts)
				}
			}
			list(t, "the image", f.Image(), want)
			cleans(t, 0, f, group)
			erasedOnce(t, f, was, group, cuts)
		}
	}
}

// use programs a word of each of a group's pages.
func use(t *testing.T, r *rand.Rand, f *flash.Flash, group int) {
	t.Helper()
	words := f.Geometry().Words
	l, _ := Pages(f, group)
	for _, page := range l {
		told(t, "Program", f.Program(page*words+r.Intn(words), 1<<r.Intn(16)), api.OK)
	}
}

// uneven wants a flash to be uneven by that at most.
func uneven(t *testing.T, f *flash.Flash, most int) {
	t.Helper()
	counts := Counts(f)
	if n := Uneven(counts...); n < 0 || n > most {
		t.Fatalf("%v: uneven by %d, want %d at most", counts, n, most)
	}
}

// 8.6: groups that are cleaned in turn, and used each time in all their pages, are uneven by 1 at most.
func TestRound(t *testing.T) {
	r := rand.New(rand.NewSource(4))
	for _, g := range geometries {
		f, group := fresh(t, g), r.Intn(g.Groups)
		start := group
		for n := range 7 * g.Groups {
			want := g.Pages
			if n < g.Groups {
				want = 0
			}
			cleans(t, want, f, group)
			uneven(t, f, 1)
			use(t, r, f, group)
			group, _ = Next(g.Groups, group)
			turns(t, group, g.Groups, start, n+1)
		}
		list(t, "Counts", Counts(f), slices.Repeat([]int{6}, g.Groups*g.Pages))
	}
}

// 8.5 and 8.6: with cuts they are uneven by as much more as there were cuts, at most.
func TestRoundWithCuts(t *testing.T) {
	r := rand.New(rand.NewSource(5))
	for _, g := range geometries {
		f, group, cuts := fresh(t, g), 0, 0
		for range 20 * g.Groups {
			if r.Intn(3) == 0 {
				f.Cut(r.Intn(2 * g.Words))
			}
			if _, e := Clean(f, group); e == api.ErrPower {
				cuts++
				f.Power()
				uneven(t, f, 1+cuts)
				if _, e := Clean(f, group); e != api.OK {
					t.Fatalf("Clean again: %v", e)
				}
			}
			f.Power()
			uneven(t, f, 1+cuts)
			use(t, r, f, group)
			group, _ = Next(g.Groups, group)
		}
		if cuts == 0 {
			t.Errorf("%v: no cut came", g)
		}
	}
}

// P1: no call panics, whatever it is given, and what is refused changes nothing.
func TestAnyArguments(t *testing.T) {
	r := rand.New(rand.NewSource(6))
	edges := append([]int{0, 1, 2, 3, 5, 6, 7, 8, 9}, nowhere...)
	draw := func() int { return edges[r.Intn(len(edges))] + r.Intn(3) - 1 } // going round at the ends
	flashes := append(noFlashes(), fresh(t, small), numbered(t, small), used(t, r, small), gone(t, small, false))
	for range 20000 {
		f := flashes[r.Intn(len(flashes))]
		g, page, groups, n := draw(), draw(), draw(), draw()
		before := f.Image()
		if l, e := Words(f, g); (e == api.OK) != (len(l) == 32) || e != api.OK && len(l) != 0 {
			t.Fatalf("Words(%d): %v, %v", g, l, e)
		}
		if l, e := Pages(f, g); (e == api.OK) != (len(l) == 2) || e != api.OK && len(l) != 0 {
			t.Fatalf("Pages(%d): %v, %v", g, l, e)
		}
		if is, e := Blank(f, page); e != api.OK && is {
			t.Fatalf("Blank(%d): %t, %v", page, is, e)
		}
		if got, e := Turn(groups, g, n); (e == api.OK) != (groups > 0 && 0 <= g && g < groups && n >= 0) || e != api.OK && got != 0 || e == api.OK && (got < 0 || got >= groups) {
			t.Fatalf("Turn(%d, %d, %d): %d, %v", groups, g, n, got, e)
		}
		Next(groups, g)
		list(t, "the image", f.Image(), before)
		if n, e := Clean(f, g); e != api.OK && (n != 0 || !slices.Equal(f.Image(), before)) {
			t.Fatalf("Clean(%d): %d, %v", g, n, e)
		}
		if f != nil && r.Intn(4) == 0 {
			f.Program(r.Intn(96), r.Intn(65536))
		}
	}
	Uneven(math.MinInt, math.MaxInt)
}
