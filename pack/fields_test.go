package pack

import (
	"math"
	"math/rand"
	"slices"
	"strconv"
	"strings"
	"testing"

	"rheostat/api"
)

// noWidths are numbers of bits that no field has.
var noWidths = []int{0, -1, -16, math.MinInt, 17, 32, 64, math.MaxInt}

// digits is a number in so many binary digits.
func digits(n, width int) string {
	d := strconv.FormatInt(int64(n), 2)
	return strings.Repeat("0", width-len(d)) + d
}

// number is what binary digits tell.
func number(t *testing.T, d string) int {
	t.Helper()
	n, err := strconv.ParseInt(d, 2, 64)
	if err != nil {
		t.Fatal(err)
	}
	return int(n)
}

// written is fields in words, in the chapter's words: digits one behind the other, noughts behind them, sixteen a word.
func written(t *testing.T, widths, values []int) []int {
	t.Helper()
	text := ""
	for i, w := range widths {
		text += digits(values[i], w)
	}
	text += strings.Repeat("0", (16-len(text)%16)%16)
	var words []int
	for ; text != ""; text = text[16:] {
		words = append(words, number(t, text[:16]))
	}
	return words
}

// spread is the values of fields in words, in the chapter's words.
func spread(t *testing.T, widths, words []int) []int {
	t.Helper()
	text := ""
	for _, w := range words {
		text += digits(w, 16)
	}
	var values []int
	for _, w := range widths {
		values = append(values, number(t, text[:w]))
		text = text[w:]
	}
	return values
}

// sum is the sum of widths.
func sum(widths []int) int {
	all := 0
	for _, w := range widths {
		all += w
	}
	return all
}

// drawFields draws so many widths, and a value for each: an end of its field, or any one.
func drawFields(r *rand.Rand, many int) (widths, values []int) {
	for range many {
		w := 1 + r.Intn(16)
		end := 1 << w
		widths = append(widths, w)
		values = append(values, []int{0, end - 1, end / 2, r.Intn(end), r.Intn(end)}[r.Intn(5)])
	}
	return widths, values
}

// fills holds what fields are in words, and how many these are, against what is asked for.
func fills(t *testing.T, widths, values, want []int) {
	t.Helper()
	got, e := Fields(widths, values)
	lists(t, "Fields", got, e, want, widths, values)
	if n := Size(widths...); n != len(want) {
		t.Fatalf("Size(%v): %d, want %d", widths, n, len(want))
	}
}

// 5.2: Size

func TestSize(t *testing.T) {
	for _, x := range []struct {
		widths []int
		want   int
	}{
		{nil, 0}, {[]int{}, 0}, {[]int{1}, 1}, {[]int{16}, 1}, {[]int{1, 16}, 2}, {[]int{4, 12}, 1}, {[]int{4, 13}, 2}, {[]int{8, 8, 1}, 2}, {[]int{16, 16}, 2}, {[]int{16, 15}, 2}, {[]int{16, 16, 1}, 3},
		{[]int{4, 12, 5, 16}, 3}, {[]int{5, 5, 5, 5, 5, 5}, 2}, {slices.Repeat([]int{1}, 256), 16}, {slices.Repeat([]int{16}, 256), 256}, {slices.Repeat([]int{13}, 256), 208},
		{slices.Repeat([]int{1}, 257), 17}, {slices.Repeat([]int{16}, 100000), 100000}, // no bound is named
	} {
		if got := Size(x.widths...); got != x.want {
			t.Errorf("Size(%v): %d, want %d", x.widths, got, x.want)
		}
	}
	for many := range 70 {
		for w := 1; w <= 16; w++ {
			want := 0
			for want*16 < many*w {
				want++
			}
			if got := Size(slices.Repeat([]int{w}, many)...); got != want {
				t.Errorf("Size of %d times %d: %d, want %d", many, w, got, want)
			}
		}
	}
}

func TestSizeOfWhatMayNotBe(t *testing.T) {
	for _, w := range noWidths {
		for _, widths := range [][]int{{w}, {w, 16}, {16, w}, {4, w, 12}, {w, w}, append(slices.Repeat([]int{1}, 300), w)} {
			if got := Size(widths...); got != 0 {
				t.Errorf("Size(%v): %d, want 0", widths, got)
			}
		}
	}
}

// 5.2: Fields

func TestFields(t *testing.T) {
	for _, x := range []struct{ widths, values, want []int }{
		{nil, nil, nil}, {[]int{}, nil, nil}, {nil, []int{}, nil},
		{[]int{1}, []int{1}, []int{32768}}, {[]int{1}, []int{0}, []int{0}}, {[]int{16}, []int{4660}, []int{4660}},
		{[]int{4, 12}, []int{1, 2}, []int{4098}}, {[]int{12, 4}, []int{1, 2}, []int{18}},
		{[]int{4, 12, 5, 16}, []int{1, 2, 31, 65535}, []int{4098, 65535, 63488}}, // a field in two words
		{[]int{15, 2}, []int{0, 3}, []int{1, 32768}}, {[]int{15, 2}, []int{0, 2}, []int{1, 0}}, {[]int{15, 2}, []int{0, 1}, []int{0, 32768}},
		{[]int{1, 16}, []int{0, 65535}, []int{32767, 32768}}, {[]int{15, 16}, []int{0, 32770}, []int{1, 4}},
		{[]int{5, 5, 5, 5, 5, 5}, []int{1, 2, 3, 4, 5, 31}, []int{2182, 17148}},
		{[]int{8, 8, 8}, []int{255, 0, 1}, []int{65280, 256}},
	} {
		fills(t, x.widths, x.values, x.want)
	}
}

func TestFieldsIsTheChapters(t *testing.T) {
	r := rand.New(rand.NewSource(3))
	for range 10000 {
		widths, values := drawFields(r, r.Intn(12))
		fills(t, widths, values, written(t, widths, values))
	}
	for w := 1; w <= 16; w++ { // each width at each place of a word, all its bits and one alone
		for ahead := 1; ahead <= 16; ahead++ {
			for _, v := range []int{1<<w - 1, 1, 1 << (w - 1)} {
				widths, values := []int{ahead, w, 1}, []int{0, v, 0}
				fills(t, widths, values, written(t, widths, values))
			}
		}
	}
	widths, values := drawFields(r, api.MaxItems)
	fills(t, widths, values, written(t, widths, values))
	words := drawWords(r, api.MaxItems)
	fills(t, slices.Repeat([]int{16}, api.MaxItems), words, words)
}

func TestFieldsRefuses(t *testing.T) {
	for _, w := range noWidths {
		for _, x := range []struct{ widths, values []int }{{[]int{w}, []int{0}}, {[]int{w, 1}, []int{0, 0}}, {[]int{1, w}, []int{0, 0}}, {[]int{w}, nil}} {
			got, e := Fields(x.widths, x.values)
			refuses(t, "Fields", got, e, api.ErrArg, x)
		}
	}
	for w := 1; w <= 16; w++ {
		for _, v := range []int{1 << w, 1<<w + 1, 1 << 16, 1 << 17, -1, -1 << 15, math.MinInt, math.MaxInt} {
			for _, x := range []struct{ widths, values []int }{{[]int{w}, []int{v}}, {[]int{w, 16}, []int{v, 0}}, {[]int{16, w}, []int{0, v}}} {
				got, e := Fields(x.widths, x.values)
				refuses(t, "Fields", got, e, api.ErrArg, x)
			}
		}
	}
	for _, x := range []struct{ widths, values []int }{{nil, []int{0}}, {[]int{1}, nil}, {[]int{1}, []int{0, 0}}, {[]int{1, 1}, []int{0}}, {[]int{1}, make([]int, 300)}} {
		got, e := Fields(x.widths, x.values)
		refuses(t, "Fields", got, e, api.ErrArg, x)
	}
}

// P1: too many widths are told ahead of what else may not be; too many values are but more than there are widths.
func TestTooManyFields(t *testing.T) {
	for _, many := range []int{api.MaxItems + 1, api.MaxItems + 2, 5000} {
		for _, w := range append(noWidths, 1, 16) {
			widths := slices.Repeat([]int{w}, many)
			for _, values := range [][]int{nil, make([]int, many), {-1}, slices.Repeat([]int{-1}, many)} {
				got, e := Fields(widths, values)
				refuses(t, "Fields", got, e, api.ErrLong, many, w)
				got, e = Split(widths, values)
				refuses(t, "Split", got, e, api.ErrLong, many, w)
			}
		}
		got, e := Fields(slices.Repeat([]int{1}, api.MaxItems), make([]int, many))
		refuses(t, "Fields", got, e, api.ErrArg, many)
	}
}

// 5.2: Split

func TestSplit(t *testing.T) {
	for _, x := range []struct{ widths, words, want []int }{
		{nil, nil, nil}, {[]int{}, []int{}, nil}, {nil, []int{5}, nil}, {nil, []int{-1, 65536}, nil},
		{[]int{1}, []int{32768}, []int{1}}, {[]int{1}, []int{32767}, []int{0}}, {[]int{16}, []int{4660}, []int{4660}},
		{[]int{4, 12}, []int{4098}, []int{1, 2}}, {[]int{4}, []int{4098}, []int{1}}, // what is left of a word counts for nothing
		{[]int{4, 12, 5, 16}, []int{4098, 65535, 63488}, []int{1, 2, 31, 65535}}, {[]int{4, 12, 5, 16}, []int{4098, 65535, 65535}, []int{1, 2, 31, 65535}},
		{[]int{15, 2}, []int{1, 32768}, []int{0, 3}}, {[]int{15, 2}, []int{65534, 32767}, []int{32767, 0}},
		{[]int{16}, []int{9, 8, 7}, []int{9}}, {[]int{8, 8}, []int{258, -1, 65536}, []int{1, 2}}, // nor what is behind the words
	} {
		got, e := Split(x.widths, x.words)
		lists(t, "Split", got, e, x.want, x.widths, x.words)
	}
}

func TestSplitIsTheChapters(t *testing.T) {
	r := rand.New(rand.NewSource(4))
	for range 10000 {
		widths, _ := drawFields(r, r.Intn(12))
		words := drawWords(r, (sum(widths)+15)/16+r.Intn(3))
		got, e := Split(widths, words)
		lists(t, "Split", got, e, spread(t, widths, words), widths, words)
	}
	for w := 1; w <= 16; w++ {
		for ahead := 1; ahead <= 16; ahead++ {
			for _, words := range runs(2) {
				words = append(words, 43690)
				widths := []int{ahead, w, 1}
				got, e := Split(widths, words)
				lists(t, "Split", got, e, spread(t, widths, words), widths, words)
			}
		}
	}
	widths, _ := drawFields(r, api.MaxItems)
	words := drawWords(r, api.MaxItems)
	got, e := Split(widths, words)
	lists(t, "Split", got, e, spread(t, widths, words), widths, words)
}

// P1: of several errors the first one is told: a width, a word that the fields take, too few words.
func TestSplitRefuses(t *testing.T) {
	for _, w := range noWidths {
		for _, widths := range [][]int{{w}, {w, 1}, {1, w}} {
			for _, words := range [][]int{nil, {0}, {-1}, {0, 0, 0, 0}} {
				got, e := Split(widths, words)
				refuses(t, "Split", got, e, api.ErrArg, widths, words)
			}
		}
	}
	for taken := 1; taken <= 4; taken++ {
		widths := append(slices.Repeat([]int{16}, taken-1), 1)
		for there := range taken {
			got, e := Split(widths, make([]int, there))
			refuses(t, "Split", got, e, api.ErrShort, widths, there)
		}
		for there := 1; there <= 6; there++ {
			for at := range there {
				for _, w := range noWords {
					words := slices.Repeat([]int{65535}, there)
					words[at] = w
					got, e := Split(widths, words)
					if at < taken {
						refuses(t, "Split", got, e, api.ErrArg, widths, words)
					} else { // it stands behind what the fields take
						lists(t, "Split", got, e, spread(t, widths, words[:taken]), widths, words)
					}
				}
			}
		}
	}
}

// Rules: what is handed in is not changed, and what is handed out is the caller's own.

func TestFieldsStayAsTheyAre(t *testing.T) {
	all, held := []int{4, 12, 5, 16, 99}, []int{1, 2, 31, 65535, -1}
	widths, values := all[:4], held[:4]
	words, _ := Fields(widths, values)
	before := slices.Clone(words)
	got, _ := Split(widths, words)
	clear(got)
	Size(widths...)
	Fields(all, held)
	Split(all, held)
	if !slices.Equal(words, before) || !slices.Equal(all, []int{4, 12, 5, 16, 99}) || !slices.Equal(held, []int{1, 2, 31, 65535, -1}) {
		t.Errorf("the words: %v, the widths: %v, the values: %v", words, all, held)
	}
	clear(words)
	again, e := Fields(widths, values)
	lists(t, "Fields, once more,", again, e, before)
}
