package log

import (
	"math"
	"slices"
	"testing"

	"rheostat/api"
	"rheostat/flash"
)

// asks is what the chapter asks a commit for: its raw writes, and what the log tells behind it. It goes by what the log tells ahead of it, and by the flash's words.
func asks(t *testing.T, f *flash.Flash, now tells, values []api.Slot) ([]api.Raw, tells) {
	t.Helper()
	g, image := f.Geometry(), f.Image()
	size := g.Pages * g.Words
	var raws []api.Raw
	program := func(at int, words []int) {
		for i, w := range words {
			raws = append(raws, api.Raw{At: at + i, Value: w})
		}
	}
	live := [api.LiveMax][api.Payload]int(now.live[1:5])
	for _, v := range values {
		live[v.Kind] = v.Payload
	}
	if now.has {
		own := image[now.group*size : (now.group+1)*size]
		used := 0 // words up to the last one that is not blank
		for at, w := range own {
			if w != 65535 {
				used = at + 1
			}
		}
		slots := (used + 15) / 16
		if left := size/16 - slots - len(values) - 1; left >= 0 {
			program(now.group*size+slots*16, laid(t, now.sequence+1, false, values...))
			return raws, some(now.sequence+1, now.group, left, live)
		}
	}
	group := (now.group + 1) % g.Groups
	for page := group * g.Pages; page < (group+1)*g.Pages; page++ {
		if slices.ContainsFunc(image[page*g.Words:(page+1)*g.Words], func(w int) bool { return w != 65535 }) {
			for at := range g.Words {
				raws = append(raws, api.Raw{Erase: true, At: page*g.Words + at, Value: 65535})
			}
		}
	}
	var all []api.Slot
	for kind, payload := range live {
		all = append(all, api.Slot{Kind: kind, Payload: payload})
	}
	program(group*size, laid(t, now.sequence+1, true, all...))
	return raws, some(now.sequence+1, group, size/16-5, live)
}

// commits wants values to be committed just as the chapter asks for.
func commits(t *testing.T, f *flash.Flash, l *Log, values ...api.Slot) {
	t.Helper()
	raws, want := asks(t, f, asked(l), values)
	writes := f.Writes()
	told(t, "Commit", l.Commit(values...), api.OK)
	if got := f.Since(writes); !slices.Equal(got, raws) {
		t.Fatalf("the raw writes of a commit:\n%v, want\n%v", got, raws)
	}
	is(t, "behind a commit", l, want)
	is(t, "opened behind a commit", opened(t, f), want)
}

// refuses wants values not to be committed, and nothing to be changed.
func refuses(t *testing.T, want api.Errno, f *flash.Flash, l *Log, values ...api.Slot) {
	t.Helper()
	before, writes, now := f.Image(), f.Writes(), asked(l)
	if e := l.Commit(values...); e != want || f.Writes() != writes || !slices.Equal(f.Image(), before) {
		t.Fatalf("Commit(%v): %v, want %v, with %d raw writes", values, e, want, f.Writes()-writes)
	}
	is(t, "behind a refusal", l, now)
}

// 9.2: Commit

// The first commit is put into group 0, whatever lies there or in the other groups, with the Sequence 1.
func TestCommitFirst(t *testing.T) {
	for _, g := range geometries {
		f := fresh(t, g)
		l := opened(t, f)
		commits(t, f, l, four(1)...)
		is(t, "behind the first commit", l, some(1, 0, g.Pages*g.Words/16-5, alive(four(1))))
		for group := range g.Groups {
			for page := range g.Pages {
				f := fresh(t, g)
				at := (group*g.Pages + page) * g.Words
				told(t, "Program", f.Program(at+16, 0), api.OK)
				l := opened(t, f)
				commits(t, f, l, four(7)...)
				is(t, "behind the first commit", l, some(1, 0, g.Pages*g.Words/16-5, alive(four(7))))
				if w, _ := f.Read(at + 16); (w == 0) != (group != 0) {
					t.Fatalf("word %d: %d", at+16, w)
				}
			}
		}
	}
}

// Values go behind those ahead as long as there is room for them and their commit, and then to the next group; of any sizes, from any number of slots on.
func TestCommitRoom(t *testing.T) {
	sets := [][]int{{0}, {3}, {0, 1}, {1, 3}, {0, 2, 3}, {0, 1, 2, 3}}
	for _, g := range geometries {
		slots := g.Pages * g.Words / 16
		for group := range g.Groups {
			for used := 5; used <= slots; used++ {
				for n, set := range sets {
					f := fresh(t, g)
					lay(t, f, group, 0, laid(t, 65535, true, four(100)...))
					if used > 5 {
						lay(t, f, group, used-1, []int{0})
					}
					lay(t, f, (group+1)%g.Groups, 2, []int{0})
					l := opened(t, f)
					var values []api.Slot
					for _, kind := range set {
						values = append(values, value(kind, 1000+n))
					}
					commits(t, f, l, values...)
					want := group
					if used+len(set)+1 > slots {
						want = (group + 1) % g.Groups
					}
					if l.Group() != want || l.Sequence() != 65536 {
						t.Fatalf("%v, %d slots used of group %d, %d values: group %d, Sequence %d", g, used, group, len(set), l.Group(), l.Sequence())
					}
				}
			}
		}
	}
}

// Of the next group those pages alone are erased that are not blank, in order.
func TestCommitErases(t *testing.T) {
	g := api.Geometry{Groups: 3, Pages: 4, Words: 80}
	for group := range 3 {
		next := (group + 1) % 3
		for set := range 16 {
			f := fresh(t, g)
			lay(t, f, group, 0, laid(t, 1, true, four(1)...))
			lay(t, f, group, 19, []int{0})
			lay(t, f, (group+2)%3, 0, laid(t, 0, true, four(1)...))
			for page := range 4 {
				if set>>page&1 == 1 {
					lay(t, f, next, 5*page+page, []int{7})
				}
			}
			commits(t, f, opened(t, f), value(2, 9))
			for page := range 12 {
				want := 0
				if page/4 == next {
					want = set >> (page % 4) & 1
				}
				if n := f.Erases(page); n != want {
					t.Fatalf("set %d: page %d was erased %d times", set, page, n)
				}
			}
		}
	}
}

// A value's Sequence counts for nothing, and what is handed in stays as it is.
func TestCommitValues(t *testing.T) {
	f := fresh(t, small)
	l := opened(t, f)
	for n, sequence := range []int{-1, math.MinInt, 1 << 32, math.MaxInt, 0, 5} {
		values := four(10 * n)
		for i := range values {
			values[i].Sequence = sequence
			values[i].Payload[10] = 65535
		}
		before := slices.Clone(values)
		told(t, "Commit", l.Commit(values...), api.OK)
		is(t, "behind a commit", l, some(n+1, n%2, 1, alive(before)))
		if !slices.Equal(values, before) {
			t.Fatalf("what was handed in: %v, was %v", values, before)
		}
		values[0].Payload[0] = 77
		is(t, "with the caller's values changed", l, some(n+1, n%2, 1, alive(before)))
	}
}

// wrong are values that may not be committed.
func wrong() [][]api.Slot {
	of := func(l ...int) []api.Slot {
		var values []api.Slot
		for _, kind := range l {
			values = append(values, value(kind, 1))
		}
		return values
	}
	l := [][]api.Slot{nil, {}, of(4), of(-1), of(5), of(math.MinInt), of(math.MaxInt), of(0, 0), of(1, 0), of(3, 2), of(0, 2, 1), of(0, 1, 1), of(-1, 0, 1, 2), of(0, 1, 2, 4), of(1, 2, 3, 4), of(0, 1, 2, 3, 4), of(0, 1, 2, 3, 3), of(3, 2, 1, 0), of(0, 1, 2, 3, 0, 1, 2, 3), slices.Repeat(of(0, 1), 1000)}
	for _, n := range []int{-1, 65536, math.MinInt, math.MaxInt} {
		for at := range api.Payload {
			for kind := range api.LiveMax {
				v := four(1)
				v[kind].Payload[at] = n
				l = append(l, v, v[kind:kind+1])
			}
		}
	}
	return l
}

func TestCommitWrongValues(t *testing.T) {
	for _, first := range []bool{true, false} {
		f := fresh(t, small)
		l := opened(t, f)
		if !first {
			commits(t, f, l, four(1)...)
		}
		for _, values := range wrong() {
			refuses(t, api.ErrArg, f, l, values...)
		}
		commits(t, f, l, four(5)...) // a refusal spoils nothing
	}
}

// Where nothing counts all Kinds are asked for; where a group counts, any of them.
func TestCommitNotAllKinds(t *testing.T) {
	for set := range 15 {
		f := fresh(t, small)
		l := opened(t, f)
		var values []api.Slot
		for kind := range api.LiveMax {
			if set>>kind&1 == 1 {
				values = append(values, value(kind, 50+kind))
			}
		}
		refuses(t, api.ErrArg, f, l, values...)
		commits(t, f, l, four(1)...)
		if set != 0 {
			commits(t, f, l, values...)
		}
	}
}

// There is no Sequence above 2^32 - 1, with room for the values and without.
func TestCommitFull(t *testing.T) {
	for _, g := range geometries {
		f := fresh(t, g)
		lay(t, f, 1, 0, laid(t, 1<<32-2, true, four(1)...))
		l := opened(t, f)
		commits(t, f, l, value(1, 5))
		if l.Sequence() != 1<<32-1 {
			t.Fatalf("Sequence: %d", l.Sequence())
		}
		for _, log := range []*Log{l, opened(t, f)} {
			refuses(t, api.ErrFull, f, log, value(0, 1))
			refuses(t, api.ErrFull, f, log, four(1)...)
			refuses(t, api.ErrArg, f, log, wrong()[2]...) // ahead of ErrFull
			refuses(t, api.ErrArg, f, log)
			gone(t, f)
			refuses(t, api.ErrFull, f, log, value(0, 1)) // ahead of ErrPower
			f.Power()
			refuses(t, api.ErrFull, f, log, value(0, 1))
		}
	}
}

// Behind a Commit that answered ErrPower all others do; what the log tells stays.
func TestCommitPower(t *testing.T) {
	for _, first := range []bool{true, false} {
		for _, ahead := range []bool{true, false} {
			f := fresh(t, small)
			l := opened(t, f)
			if !first {
				commits(t, f, l, four(1)...)
			}
			if ahead {
				gone(t, f) // the power is gone for another reason
			} else {
				f.Cut(0)
			}
			refuses(t, api.ErrArg, f, l, wrong()[2]...) // ahead of ErrPower
			refuses(t, api.ErrPower, f, l, four(1)...)
			f.Power()
			refuses(t, api.ErrPower, f, l, four(1)...)
			refuses(t, api.ErrPower, f, l, wrong()[2]...) // from here on ahead of ErrArg
			refuses(t, api.ErrPower, f, l)
			m := opened(t, f)
			commits(t, f, m, four(1)...)
			refuses(t, api.ErrPower, f, l, four(1)...)
		}
	}
}

// A power that went and came again, between the commits of a log, is nothing to it.
func TestCommitPowerAgain(t *testing.T) {
	f := fresh(t, small)
	l := opened(t, f)
	commits(t, f, l, four(1)...)
	gone(t, f)
	refuses(t, api.ErrArg, f, l)
	f.Power()
	commits(t, f, l, four(2)...)
}

// A cut that falls just behind a commit takes nothing of it.
func TestCommitCutBehind(t *testing.T) {
	f := fresh(t, small)
	l := opened(t, f)
	f.Cut(80)
	commits(t, f, l, four(1)...)
	refuses(t, api.ErrPower, f, l, four(2)...)
}

// The words of the group that counts are looked at as they are then.
func TestCommitLooksAtTheWords(t *testing.T) {
	for used := 5; used <= 14; used++ {
		f := fresh(t, api.Geometry{Groups: 2, Pages: 2, Words: 112})
		l := opened(t, f)
		commits(t, f, l, four(1)...)
		if used > 5 {
			lay(t, f, 0, used-1, []int{0})
		}
		commits(t, f, l, value(0, 9), value(3, 5))
		if want := used / 12; l.Group() != want {
			t.Fatalf("with %d slots used: group %d", used, l.Group())
		}
	}
}

// There may be more room in them than the log found.
func TestCommitFindsMoreRoom(t *testing.T) {
	for used := 6; used <= 14; used++ {
		f := fresh(t, api.Geometry{Groups: 2, Pages: 2, Words: 112})
		lay(t, f, 0, 0, laid(t, 1, true, four(1)...))
		image := f.Image()
		lay(t, f, 0, used-1, []int{0})
		l := opened(t, f)
		told(t, "Load", f.Load(image), api.OK)
		commits(t, f, l, four(9)...)
		is(t, "behind a commit", l, some(2, 0, 4, alive(four(9))))
	}
}

// If the group is spoilt beside the log, a commit put into it may not count; then nothing does.
func TestCommitSpoilt(t *testing.T) {
	g := api.Geometry{Groups: 3, Pages: 2, Words: 112}
	f := fresh(t, g)
	lay(t, f, 0, 0, laid(t, 3, true, four(1)...))
	lay(t, f, 1, 0, laid(t, 7, true, four(5)...))
	l := opened(t, f)
	lay(t, f, 1, 4, []int{0}) // the only commit
	is(t, "ahead of a commit", l, some(7, 1, 9, alive(four(5))))
	told(t, "Commit", l.Commit(value(1, 50)), api.OK)
	is(t, "behind a commit", l, none())
	refuses(t, api.ErrArg, f, l, value(1, 50))
	is(t, "opened again", opened(t, f), some(3, 0, 9, alive(four(1))))
	told(t, "Commit", l.Commit(four(9)...), api.OK)
	is(t, "behind a first commit", l, some(1, 0, 9, alive(four(9))))
	if f.Erases(0) != 1 || f.Erases(1) != 0 || f.Erases(2) != 0 {
		t.Fatalf("the erases: %d %d %d", f.Erases(0), f.Erases(1), f.Erases(2))
	}
}

// What is spoilt so that other words count is told as these words say; ahead of it, what the log told goes on.
func TestCommitSpoiltOtherwise(t *testing.T) {
	g := api.Geometry{Groups: 2, Pages: 2, Words: 112}
	other := fresh(t, g)
	lay(t, other, 0, 0, laid(t, 2, true, four(70)...))
	f := fresh(t, g)
	l := opened(t, f)
	commits(t, f, l, four(1)...)
	commits(t, f, l, value(0, 20))
	commits(t, f, l, value(0, 30))
	told(t, "Load", f.Load(other.Image()), api.OK)
	told(t, "Commit", l.Commit(value(1, 8)), api.OK)
	is(t, "behind a commit", l, some(4, 0, 7, alive([]api.Slot{value(0, 70), value(1, 8), value(2, 72), value(3, 73)})))

	lay(t, other, 0, 5, laid(t, 9, false, value(2, 90)))
	told(t, "Load", f.Load(other.Image()), api.OK)
	told(t, "Commit", l.Commit(value(1, 8)), api.OK) // with Sequence 5, so that it does not count
	is(t, "behind a commit that does not count", l, some(9, 0, 5, alive([]api.Slot{value(0, 70), value(1, 71), value(2, 90), value(3, 73)})))

	full := fresh(t, g)
	lay(t, full, 0, 0, laid(t, 1, true, four(40)...))
	lay(t, full, 0, 13, []int{0})
	told(t, "Load", f.Load(full.Image()), api.OK)
	told(t, "Commit", l.Commit(value(3, 6)), api.OK) // all else as the log told it, into the next group
	is(t, "behind a commit into the next group", l, some(10, 1, 9, alive([]api.Slot{value(0, 70), value(1, 71), value(2, 90), value(3, 6)})))
}
