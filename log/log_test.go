package log

import (
	"math"
	"slices"
	"testing"

	"rheostat/api"
	"rheostat/flash"
	"rheostat/slot"
)

// small is the geometry of most tests: two groups of one page of six slots.
var small = api.Geometry{Groups: 2, Pages: 1, Words: 96}

// geometries are those of other tests: the least one among them, more groups, more pages, and both.
var geometries = []api.Geometry{small, {Groups: 2, Pages: 1, Words: 80}, {Groups: 3, Pages: 2, Words: 80}, {Groups: 2, Pages: 3, Words: 112}, {Groups: 8, Pages: 1, Words: 128}, {Groups: 4, Pages: 2, Words: 176}}

// tells is all that a log tells: of the Kinds from -1 to LiveMax what is alive, and the error.
type tells struct {
	has                   bool
	sequence, group, free int
	live                  [api.LiveMax + 2][api.Payload]int
	errors                [api.LiveMax + 2]api.Errno
}

// none is what a log tells of which no group counts.
func none() tells {
	t := tells{group: -1}
	for i := range t.errors {
		t.errors[i] = api.ErrNone
	}
	return t
}

// some is what a log tells of which a group counts.
func some(sequence, group, free int, live [api.LiveMax][api.Payload]int) tells {
	t := tells{has: true, sequence: sequence, group: group, free: free}
	t.errors[0], t.errors[api.LiveMax+1] = api.ErrNone, api.ErrNone
	copy(t.live[1:], live[:])
	return t
}

// asked asks a log for all that it tells.
func asked(l *Log) tells {
	t := tells{has: l.Has(), sequence: l.Sequence(), group: l.Group(), free: l.Free()}
	for i := range t.live {
		t.live[i], t.errors[i] = l.Get(i - 1)
	}
	return t
}

// is wants a log to tell just this.
func is(t *testing.T, what string, l *Log, want tells) {
	t.Helper()
	if got := asked(l); got != want {
		t.Fatalf("%s:\n%v, want\n%v", what, got, want)
	}
}

// fresh makes a flash that the test can't do without.
func fresh(t *testing.T, g api.Geometry) *flash.Flash {
	t.Helper()
	f, e := flash.Make(g)
	if e != api.OK {
		t.Fatalf("Make(%v): %v", g, e)
	}
	return f
}

// opened opens a log that the test can't do without.
func opened(t *testing.T, f *flash.Flash) *Log {
	t.Helper()
	writes := f.Writes()
	l, e := Open(f)
	if e != api.OK || l == nil || f.Writes() != writes {
		t.Fatalf("Open: %v, %v, %d raw writes", l, e, f.Writes()-writes)
	}
	return l
}

// told holds an error against the one that is asked for.
func told(t *testing.T, what string, got, want api.Errno) {
	t.Helper()
	if got != want {
		t.Fatalf("%s: %v, want %v", what, got, want)
	}
}

// value is a value of which the first numbers are these.
func value(kind int, numbers ...int) api.Slot {
	return api.Slot{Kind: kind, Payload: slot.Payload(numbers...)}
}

// four are values of all Kinds: n, n+1, n+2, n+3.
func four(n int) []api.Slot {
	return []api.Slot{value(0, n), value(1, n+1), value(2, n+2), value(3, n+3)}
}

// alive is the Payloads of values of all Kinds.
func alive(values []api.Slot) [api.LiveMax][api.Payload]int {
	var live [api.LiveMax][api.Payload]int
	for _, v := range values {
		live[v.Kind] = v.Payload
	}
	return live
}

// laid is the words of records, with that Sequence, and of their commit.
func laid(t *testing.T, sequence int, first bool, l ...api.Slot) []int {
	t.Helper()
	c, e := slot.Commit(sequence, len(l), first)
	told(t, "slot.Commit", e, api.OK)
	var words []int
	for _, s := range append(slices.Clone(l), c) {
		s.Sequence = sequence
		own, e := slot.Words(s)
		told(t, "slot.Words", e, api.OK)
		words = append(words, own...)
	}
	return words
}

// lay programs words into a group, from a slot on, as others than a log would.
func lay(t *testing.T, f *flash.Flash, group, at int, words []int) {
	t.Helper()
	g := f.Geometry()
	told(t, "Program", f.Program(group*g.Pages*g.Words+at*16, words...), api.OK)
}

// noFlashes are flashes that no call made.
func noFlashes() []*flash.Flash { return []*flash.Flash{nil, {}} }

// gone lets a flash's power go.
func gone(t *testing.T, f *flash.Flash) {
	t.Helper()
	f.Cut(0)
	told(t, "Program behind the cut", f.Program(0, 0), api.ErrPower)
}

// The chapter's example.
func TestExample(t *testing.T) {
	f := fresh(t, api.Geometry{Groups: 2, Pages: 1, Words: 96})
	l := opened(t, f)
	told(t, "Commit", l.Commit(four(1)...), api.OK)
	is(t, "behind the first commit", l, some(1, 0, 1, alive(four(1))))
	told(t, "Commit", l.Commit(value(1, 9)), api.OK)
	is(t, "behind the second commit", l, some(2, 1, 1, alive([]api.Slot{value(0, 1), value(1, 9), value(2, 3), value(3, 4)})))
}

// 9.1: Fits and Open

// lies tells by the chapters' bounds whether a log lies on a flash of that geometry.
func lies(g api.Geometry) bool {
	return g.Groups >= 2 && g.Groups <= 8 && g.Pages >= 1 && g.Pages <= 8 && g.Words >= 80 && g.Words <= 1024 && g.Words%16 == 0
}

func TestFits(t *testing.T) {
	numbers := []int{math.MinInt, math.MinInt + 16, -80, -16, -2, -1, 0, 1, 2, 3, 7, 8, 9, 10, 1 << 32, 1 << 62, math.MaxInt}
	words := append([]int{16, 64, 79, 80, 81, 95, 96, 97, 112, 1008, 1009, 1023, 1024, 1025, 1040, 1 << 16}, numbers...)
	for _, groups := range numbers {
		for _, pages := range numbers {
			for _, n := range words {
				g := api.Geometry{Groups: groups, Pages: pages, Words: n}
				if got := Fits(g); got != lies(g) {
					t.Fatalf("Fits(%v): %t", g, got)
				}
			}
		}
	}
	for n := range 1100 {
		if g := (api.Geometry{Groups: 2, Pages: 1, Words: n}); Fits(g) != lies(g) {
			t.Fatalf("Fits(%v): %t", g, Fits(g))
		}
	}
}

func TestOpenGoesWithFits(t *testing.T) {
	for groups := range 9 {
		for _, pages := range []int{1, 2, 8} {
			for _, words := range []int{16, 64, 79, 80, 81, 96, 100, 1023, 1024} {
				g := api.Geometry{Groups: groups, Pages: pages, Words: words}
				f, e := flash.Make(g)
				if e != api.OK {
					continue
				}
				l, e := Open(f)
				if fits := Fits(g); fits != (e == api.OK) || fits != (l != nil) || !fits && e != api.ErrLog {
					t.Fatalf("Open of %v: %v, %v", g, l, e)
				}
			}
		}
	}
}

func TestOpenErrors(t *testing.T) {
	notOpened := func(want api.Errno, f *flash.Flash) {
		t.Helper()
		before, writes := f.Image(), f.Writes()
		if l, e := Open(f); e != want || l != nil || !slices.Equal(f.Image(), before) || f.Writes() != writes {
			t.Fatalf("Open: %v, %v, want %v", l, e, want)
		}
	}
	for _, f := range noFlashes() {
		notOpened(api.ErrNil, f)
	}
	for _, g := range []api.Geometry{{Groups: 1, Pages: 8, Words: 1024}, {Groups: 8, Pages: 8, Words: 64}, {Groups: 2, Pages: 2, Words: 88}} {
		f := fresh(t, g)
		notOpened(api.ErrLog, f)
		gone(t, f)
		notOpened(api.ErrLog, f) // ahead of ErrPower
	}
	for _, g := range geometries {
		f := fresh(t, g)
		gone(t, f)
		notOpened(api.ErrPower, f)
		f.Load(slices.Repeat([]int{0}, f.Size())) // words alone bring no power
		notOpened(api.ErrPower, f)
		f.Power()
		is(t, "with power again", opened(t, f), none())
	}
}

// A cut that has not come is no error, as opening writes nothing.
func TestOpenAheadOfACut(t *testing.T) {
	f := fresh(t, small)
	f.Cut(0)
	l := opened(t, f)
	is(t, "ahead of a cut", l, none())
	told(t, "Commit", l.Commit(four(1)...), api.ErrPower)
}

func TestOpenBlank(t *testing.T) {
	for _, g := range geometries {
		f := fresh(t, g)
		is(t, "of a blank flash", opened(t, f), none())
		told(t, "Program", f.Program(f.Size()-1, 0), api.OK)
		is(t, "where nothing counts", opened(t, f), none())
		lay(t, f, 1, 0, laid(t, 5, false, four(1)...)) // is not told to be the first one
		is(t, "where nothing counts", opened(t, f), none())
	}
}

// Of the groups of which a commit counts it is the one of the greatest Sequence, of two the first one.
func TestOpenGreatest(t *testing.T) {
	const no = -1
	cases := []struct {
		want      int
		sequences [3]int
	}{
		{0, [3]int{0, no, no}}, {2, [3]int{no, no, 0}}, {1, [3]int{no, 0, 0}}, {0, [3]int{0, 0, 0}},
		{0, [3]int{9, 8, 7}}, {1, [3]int{8, 9, 7}}, {2, [3]int{7, 8, 9}}, {2, [3]int{8, 7, 9}}, {1, [3]int{7, 9, 8}}, {0, [3]int{9, 7, 8}},
		{0, [3]int{9, 9, 8}}, {0, [3]int{9, 8, 9}}, {1, [3]int{8, 9, 9}}, {0, [3]int{9, 9, 9}}, {1, [3]int{no, 9, 9}}, {2, [3]int{no, 3, 9}},
		{2, [3]int{1, 1 << 16, 1<<32 - 1}}, {0, [3]int{1<<32 - 1, 1<<32 - 2, 0}}, {1, [3]int{65535, 65536, no}},
	}
	for _, g := range []api.Geometry{{Groups: 3, Pages: 1, Words: 96}, {Groups: 3, Pages: 2, Words: 80}} {
		for _, c := range cases {
			f := fresh(t, g)
			for group, sequence := range c.sequences {
				if sequence != no {
					lay(t, f, group, 0, laid(t, sequence, true, four(10*group)...))
				}
			}
			is(t, "the greatest one", opened(t, f), some(c.sequences[c.want], c.want, g.Pages*g.Words/16-5, alive(four(10*c.want))))
		}
	}
}

// What is alive is what the last commit made count; what is torn behind it takes room alone.
func TestOpenWhatIsAlive(t *testing.T) {
	for group := range 3 {
		f := fresh(t, api.Geometry{Groups: 3, Pages: 2, Words: 112})
		lay(t, f, group, 0, laid(t, 3, true, four(1)...))
		lay(t, f, group, 5, laid(t, 4, false, value(1, 20), value(3, 40)))
		want := alive([]api.Slot{value(0, 1), value(1, 20), value(2, 3), value(3, 40)})
		is(t, "with a second commit", opened(t, f), some(4, group, 6, want))
		lay(t, f, group, 9, []int{1}) // behind a slot that is blank
		is(t, "with a torn slot", opened(t, f), some(4, group, 4, want))
		lay(t, f, group, 13, []int{1})
		is(t, "with the last slot torn", opened(t, f), some(4, group, 0, want))
	}
}

// 9.2: what a log tells

func TestGet(t *testing.T) {
	f := fresh(t, small)
	l := opened(t, f)
	values := four(100)
	values[2] = value(2, 1, 2, 3, 4, 5, 6, 7, 8, 9, 10, 65535)
	told(t, "Commit", l.Commit(values...), api.OK)
	for _, log := range []*Log{l, opened(t, f)} {
		for kind, v := range values {
			payload, e := log.Get(kind)
			if e != api.OK || payload != v.Payload {
				t.Fatalf("Get(%d): %v, %v", kind, payload, e)
			}
			payload[0] = -1 // is the caller's own
			again, _ := log.Get(kind)
			if again != v.Payload {
				t.Fatalf("Get(%d) again: %v", kind, again)
			}
		}
		for _, kind := range []int{math.MinInt, -4, -1, 4, 5, 16, 1 << 32, math.MaxInt} {
			if payload, e := log.Get(kind); e != api.ErrNone || payload != [api.Payload]int{} {
				t.Fatalf("Get(%d): %v, %v", kind, payload, e)
			}
		}
	}
}

// A log that no call made.
func TestNoLog(t *testing.T) {
	for _, l := range []*Log{nil, {}} {
		for range 2 {
			want := tells{group: -1}
			for i := range want.errors {
				want.errors[i] = api.ErrNil
			}
			is(t, "no log", l, want)
			told(t, "Commit", l.Commit(four(1)...), api.ErrNil)
			told(t, "Commit of none", l.Commit(), api.ErrNil)
			told(t, "Commit of what may not be", l.Commit(value(9, -1)), api.ErrNil)
		}
	}
}

// What a log tells it found as it was opened, whatever others do to the words since.
func TestTellsWhatItFound(t *testing.T) {
	for _, g := range geometries {
		f := fresh(t, g)
		blank := opened(t, f)
		lay(t, f, 0, 0, laid(t, 7, true, four(1)...))
		l := opened(t, f)
		is(t, "opened behind it", l, some(7, 0, g.Pages*g.Words/16-5, alive(four(1))))
		is(t, "opened ahead of it", blank, none())
		lay(t, f, 1, 0, laid(t, 8, true, four(1)...))
		told(t, "Erase", f.Erase(0), api.OK)
		gone(t, f)
		is(t, "with its group erased", l, some(7, 0, g.Pages*g.Words/16-5, alive(four(1))))
	}
}
