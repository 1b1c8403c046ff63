package log

import (
	"math"
	"math/rand"
	"slices"
	"testing"

	"rheostat/api"
	"rheostat/flash"
	"rheostat/wear"
)

// drawn draws values that may be committed; where nothing counts, of all Kinds.
func drawn(r *rand.Rand, has bool) []api.Slot {
	set := 15
	if has {
		set = 1 + r.Intn(15)
	}
	var values []api.Slot
	for kind := range api.LiveMax {
		if set>>kind&1 == 0 {
			continue
		}
		v := api.Slot{Kind: kind, Sequence: r.Intn(1000)}
		for i := range v.Payload {
			v.Payload[i] = [...]int{0, 65535, 65534, r.Intn(65536), r.Intn(65536)}[r.Intn(5)]
		}
		values = append(values, v)
	}
	return values
}

// twin makes a flash with the words of another one, and nothing else of it.
func twin(t *testing.T, f *flash.Flash) *flash.Flash {
	t.Helper()
	other := fresh(t, f.Geometry())
	told(t, "Load", other.Load(f.Image()), api.OK)
	return other
}

// even wants the counts of erases of any two pages to differ by 1 and the number of cuts at most.
func even(t *testing.T, f *flash.Flash, cuts int) {
	t.Helper()
	counts := wear.Counts(f)
	if n := slices.Max(counts) - slices.Min(counts); n > 1+cuts {
		t.Fatalf("%v: uneven by %d, with %d cuts", counts, n, cuts)
	}
}

// erases wants the raw writes to start as many erases as a group has pages at most, none of a page that was blank.
func erases(t *testing.T, f *flash.Flash, before []int, raws []api.Raw) {
	t.Helper()
	g := f.Geometry()
	started := 0
	for _, raw := range raws {
		if !raw.Erase || raw.At%g.Words != 0 {
			continue
		}
		started++
		if !slices.ContainsFunc(before[raw.At:raw.At+g.Words], func(w int) bool { return w != 65535 }) {
			t.Fatalf("a blank page was erased: %d", raw.At/g.Words)
		}
	}
	if started > g.Pages {
		t.Fatalf("%d erases started", started)
	}
}

// Commits of any values, one behind the other, are just what the chapter asks for; 9.4 to 9.7 without cuts.
func TestCommits(t *testing.T) {
	r := rand.New(rand.NewSource(1))
	for _, g := range geometries {
		for range 3 {
			f := fresh(t, g)
			l := opened(t, f)
			for range 30 * g.Groups * g.Pages {
				if r.Intn(4) == 0 {
					now := asked(l)
					l = opened(t, f)
					is(t, "opened again", l, now)
				}
				before, writes := f.Image(), f.Writes()
				commits(t, f, l, drawn(r, l.Has())...)
				erases(t, f, before, f.Since(writes))
				even(t, f, 0)
			}
		}
	}
}

// Commits of one size alone go round evenly too: those of one value, those of all Kinds.
func TestCommitsOfOneSize(t *testing.T) {
	for _, g := range append(geometries, api.Geometry{Groups: 2, Pages: 8, Words: 80}, api.Geometry{Groups: 8, Pages: 8, Words: 144}) {
		for many := 1; many <= api.LiveMax; many++ {
			f := fresh(t, g)
			l := opened(t, f)
			told(t, "Commit", l.Commit(four(1)...), api.OK)
			last, turns := 0, 0
			for n := 0; turns < 4*g.Groups; n++ {
				told(t, "Commit", l.Commit(four(n)[:many]...), api.OK)
				even(t, f, 0)
				if l.Group() != last {
					last, turns = l.Group(), turns+1
				}
			}
			for page := range g.Groups * g.Pages { // group 0 was begun for the fifth time
				want := 3
				if page < g.Pages {
					want = 4
				}
				if n := f.Erases(page); n != want {
					t.Fatalf("%v, %d values: page %d was erased %d times", g, many, page, n)
				}
			}
		}
	}
}

// cutAnywhere commits values to a flash's twin with a cut behind each number of raw writes, and asks each time for what 9.3 asks for. Cut again behind any number of raw writes more, what is opened is the same.
func cutAnywhere(t *testing.T, r *rand.Rand, start *flash.Flash, values []api.Slot) {
	t.Helper()
	ahead := asked(opened(t, start))
	raws, behind := asks(t, start, ahead, values)
	for n := range len(raws) + 1 {
		f := twin(t, start)
		l := opened(t, f)
		f.Cut(n)
		e := l.Commit(values...)
		if (n < len(raws)) != (e == api.ErrPower) || n == len(raws) && e != api.OK || !slices.Equal(f.Since(0), raws[:n]) {
			t.Fatalf("Commit with a cut of %d: %v, %v", n, e, f.Since(0))
		}
		want := ahead
		if n == len(raws) {
			want = behind
		}
		is(t, "what the log itself tells", l, want)
		f.Power()
		if n < len(raws) {
			told(t, "Commit with power again", l.Commit(values...), api.ErrPower)
		}
		opensAs(t, f, want)
		again(t, r, f, want)
	}
}

// opensAs wants a flash to be opened with what is alive and its Sequence and group as they are asked for; but torn slots take room. Opened once more it is just the same, and its image is.
func opensAs(t *testing.T, f *flash.Flash, want tells) {
	t.Helper()
	before := f.Image()
	l := opened(t, f)
	got := asked(l)
	if want.free < got.free {
		t.Fatalf("opened: %d slots are free, %d were", got.free, want.free)
	}
	want.free = got.free
	is(t, "opened", l, want)
	is(t, "opened again", opened(t, f), got)
	if !slices.Equal(f.Image(), before) {
		t.Fatal("opening changed the image")
	}
}

// again commits to what a cut left, with a cut again, and then without one.
func again(t *testing.T, r *rand.Rand, start *flash.Flash, now tells) {
	t.Helper()
	f := twin(t, start)
	for range r.Intn(3) {
		l := opened(t, f)
		ahead := asked(l)
		values := drawn(r, l.Has())
		raws, _ := asks(t, f, ahead, values)
		f.Cut(r.Intn(len(raws)))
		told(t, "Commit that is cut again", l.Commit(values...), api.ErrPower)
		f.Power()
		opensAs(t, f, ahead)
	}
	l := opened(t, f)
	commits(t, f, l, drawn(r, l.Has())...)
	if l.Sequence() != now.sequence+1 {
		t.Fatalf("Sequence %d behind %d", l.Sequence(), now.sequence)
	}
}

// 9.3, 9.4 and 9.7: whichever raw write a cut takes, of first commits, of such that find room, and of such that go to the next group.
func TestCutAnywhere(t *testing.T) {
	r := rand.New(rand.NewSource(2))
	for _, g := range geometries[:4] {
		f := fresh(t, g)
		cutAnywhere(t, r, f, four(1))
		dirty := fresh(t, g)
		for range 20 {
			told(t, "Program", dirty.Program(r.Intn(dirty.Size()), r.Intn(65536)), api.OK)
		}
		cutAnywhere(t, r, dirty, four(1))
		l := opened(t, f)
		for range 3 * g.Groups * g.Pages {
			values := drawn(r, l.Has())
			if r.Intn(3) == 0 {
				cutAnywhere(t, r, f, values)
			}
			commits(t, f, l, values...)
		}
	}
}

// 9.3 to 9.7: cuts again and again on one flash, behind any numbers of raw writes, in turns of groups too.
func TestCutAgainAndAgain(t *testing.T) {
	r := rand.New(rand.NewSource(3))
	for _, g := range geometries {
		for often := 1; often < 4; often++ {
			f := fresh(t, g)
			l, cuts := opened(t, f), 0
			for range 40 * g.Groups * g.Pages {
				ahead, before, writes := asked(l), f.Image(), f.Writes()
				values := drawn(r, ahead.has)
				raws, behind := asks(t, f, ahead, values)
				if r.Intn(4) < often {
					f.Cut(r.Intn(len(raws) + 1))
				}
				e := l.Commit(values...)
				done := f.Since(writes)
				f.Power()
				erases(t, f, before, done)
				if e == api.OK {
					opensAs(t, f, behind)
				} else {
					told(t, "Commit that is cut", e, api.ErrPower)
					cuts++
					opensAs(t, f, ahead)
					l = opened(t, f)
				}
				if !slices.Equal(done, raws[:len(done)]) || (e == api.OK) != (len(done) == len(raws)) {
					t.Fatalf("the raw writes: %v, want %v", done, raws)
				}
				even(t, f, cuts)
			}
			if cuts == 0 || len(slices.DeleteFunc(wear.Counts(f), func(n int) bool { return n == 0 })) == 0 {
				t.Errorf("%v: %d cuts, erased: %v", g, cuts, wear.Counts(f))
			}
		}
	}
}

// 9.5: cuts that always fall in the same place of a turn wear one page by one a cut, and no more.
func TestCutInTheSamePlace(t *testing.T) {
	for _, g := range geometries {
		size := g.Pages*g.Words + 80 // raw writes of a turn, if all its pages are used
		for _, place := range []int{0, 1, g.Words - 1, g.Words, g.Words + 1, size - 81, size - 80, size - 79, size - 1} {
			f := fresh(t, g)
			l, cuts, last := opened(t, f), 0, -1
			for range 20 * g.Groups * g.Pages {
				if l.Free() < 5 && l.Group() != last {
					last = l.Group() // once a turn
					f.Cut(place)
				}
				ahead := asked(l)
				e := l.Commit(four(cuts)...)
				if e == api.ErrPower {
					cuts++
					f.Power()
					l = opened(t, f)
					opensAs(t, f, ahead)
				}
				f.Power()
				even(t, f, cuts)
			}
			if cuts == 0 {
				t.Errorf("%v, %d: no cut came", g, place)
			}
		}
	}
}

// 9.4: cuts that leave a torn slot each, one behind the other, never leave a commit without room.
func TestTornSlots(t *testing.T) {
	for _, g := range geometries {
		f := fresh(t, g)
		told(t, "Commit", opened(t, f).Commit(four(1)...), api.OK)
		for n := range 5 * g.Groups * g.Pages * g.Words / 16 {
			l := opened(t, f)
			ahead := asked(l)
			raws, _ := asks(t, f, ahead, []api.Slot{value(n%4, n)})
			f.Cut(len(raws) - 1)
			told(t, "Commit that is cut", l.Commit(value(n%4, n)), api.ErrPower)
			f.Power()
			opensAs(t, f, ahead)
			even(t, f, n+1)
		}
		commits(t, f, opened(t, f), value(2, 9))
	}
}

// The greatest flash goes round too.
func TestGreatestFlash(t *testing.T) {
	g := api.Geometry{Groups: 8, Pages: 8, Words: 1024}
	f := fresh(t, g)
	lay(t, f, 7, 0, laid(t, 5, true, four(1)...))
	lay(t, f, 7, 508, []int{0})
	l := opened(t, f)
	is(t, "opened", l, some(5, 7, 3, alive(four(1))))
	commits(t, f, l, value(0, 7), value(1, 8))
	commits(t, f, l, value(0, 7))
	is(t, "in group 0", l, some(7, 0, 507, alive([]api.Slot{value(0, 7), value(1, 8), value(2, 3), value(3, 4)})))
}

// P1 and P2: no call panics, whatever it is given and whatever lies on the flash, and what is refused changes nothing.
func TestAnyArguments(t *testing.T) {
	r := rand.New(rand.NewSource(4))
	odd := []int{math.MinInt, -1, 0, 1, 2, 3, 4, 5, 65535, 65536, 1<<32 - 1, 1 << 32, math.MaxInt}
	draw := func() int { return odd[r.Intn(len(odd))] }
	for range 300 {
		g := geometries[r.Intn(len(geometries))]
		f := fresh(t, g)
		for range r.Intn(3) {
			f.Program(r.Intn(g.Groups)*g.Pages*g.Words+r.Intn(2)*80, laid(t, [...]int{0, 7, 1<<32 - 1, 1<<32 - 2}[r.Intn(4)], r.Intn(2) == 0, drawn(r, r.Intn(2) == 0)...)...)
		}
		for range r.Intn(20) {
			f.Program(r.Intn(f.Size()), r.Intn(65536))
		}
		logs := []*Log{nil, {}, opened(t, f), opened(t, f)}
		for range 20 {
			l := logs[r.Intn(len(logs))]
			values := drawn(r, true)
			if r.Intn(2) == 0 {
				values[r.Intn(len(values))] = api.Slot{Kind: draw(), Sequence: draw(), Payload: [api.Payload]int{draw(), 10: draw()}}
			}
			switch r.Intn(8) {
			case 0:
				f.Cut(r.Intn(200))
			case 1:
				f.Power()
			}
			before, writes, now := f.Image(), f.Writes(), asked(l)
			e := l.Commit(values...)
			if e != api.OK {
				is(t, "behind a refusal", l, now)
			}
			if e != api.OK && e != api.ErrPower && (f.Writes() != writes || !slices.Equal(f.Image(), before)) {
				t.Fatalf("%v with raw writes", e)
			}
			l.Get(draw())
			Fits(api.Geometry{Groups: draw(), Pages: draw(), Words: draw()})
		}
	}
}
