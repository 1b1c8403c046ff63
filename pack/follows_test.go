package pack

import (
	"math/big"
	"math/rand"
	"slices"
	"testing"

	"rheostat/api"
)

// 5.3: what is put is got, each number in its own words.
func TestWhatIsPutIsGot(t *testing.T) {
	r := rand.New(rand.NewSource(5))
	for _, c := range kinds {
		for k := 1; k <= 4; k++ {
			var l []int
			for _, n := range append(edges(), draw(r), draw(r), draw(r), draw(r)) {
				if spelt(k, c.sign, n) != nil {
					l = append(l, n)
				}
			}
			words, e := c.put(k, l...)
			if e != api.OK || len(words) != k*len(l) {
				t.Fatalf("%s, %d words each: %d for %d numbers, %v", c.name, k, len(words), len(l), e)
			}
			for i, n := range l {
				alike(t, c.name, tell(c.get(k, words[i*k:]...)), answer{n, api.OK}, k, n)
			}
		}
	}
}

// 5.3, from the words on: what is got is put into the same ones.
func TestWhatIsGotIsPut(t *testing.T) {
	r := rand.New(rand.NewSource(6))
	for _, c := range kinds {
		for k := 1; k <= 4; k++ {
			for _, words := range append(runs(k), drawWords(r, k), drawWords(r, k)) {
				n, e := c.get(k, words...)
				if e != api.OK {
					continue
				}
				again, e := c.put(k, n)
				lists(t, c.name, again, e, words, k, n)
			}
		}
	}
}

// 5.4: Split of Fields is the values.
func TestSplitOfFields(t *testing.T) {
	r := rand.New(rand.NewSource(7))
	for many := range api.MaxItems + 1 {
		widths, values := drawFields(r, many)
		words, e := Fields(widths, values)
		lists(t, "Fields", words, e, words, widths, values)
		got, e := Split(widths, words)
		lists(t, "Split", got, e, values, widths, words)
	}
}

// 5.4: of words that have noughts behind the fields, Fields of Split are these; of others the same, with noughts there.
func TestFieldsOfSplit(t *testing.T) {
	r := rand.New(rand.NewSource(8))
	for many := range api.MaxItems + 1 {
		widths, _ := drawFields(r, many)
		words := drawWords(r, Size(widths...))
		values, e := Split(widths, words)
		lists(t, "Split", values, e, values, widths, words)
		clean := slices.Clone(words)
		if last := len(clean) - 1; last >= 0 {
			left := 16*len(clean) - sum(widths)
			clean[last] = clean[last] >> left << left
		}
		again, e := Fields(widths, values)
		lists(t, "Fields", again, e, clean, widths, values)
	}
}

// 5.5: a number with and without a sign in the same words differ by 0 or 2^16k.
func TestWithAndWithoutASign(t *testing.T) {
	r := rand.New(rand.NewSource(9))
	for k := 1; k <= 4; k++ {
		seen := [2]int{}
		for _, words := range append(runs(k), drawWords(r, k), drawWords(r, k)) {
			with, e := Get(k, words...)
			without, f := GetPlain(k, words...)
			if e != api.OK {
				t.Fatalf("Get(%d, %v): %v", k, words, e)
			}
			if f != api.OK { // there is none without a sign, as this one would be above 2^63 - 1
				if f != api.ErrLong || k < 4 || with >= 0 {
					t.Fatalf("GetPlain(%d, %v): %v, with a sign: %d", k, words, f, with)
				}
				continue
			}
			apart := new(big.Int).Sub(big.NewInt(int64(without)), big.NewInt(int64(with)))
			switch {
			case apart.Sign() == 0 && with >= 0:
				seen[0]++
			case apart.Cmp(power(16*k)) == 0 && with < 0:
				seen[1]++
			default:
				t.Fatalf("of %v: %d with a sign, %d without", words, with, without)
			}
		}
		if seen[0] == 0 || seen[1] == 0 && k < 4 {
			t.Errorf("in %d words: %v", k, seen)
		}
	}
}
