package tree_test

import (
	"math"
	"testing"
)

// P5.3: Rank of keys that are there, and of those below, between and above them.
func TestRank(t *testing.T) {
	for _, entries := range []int{1, 2, 3, 7, 8, 100} {
		a := rising(entries)
		for k := -3; k < 2*entries+3; k++ {
			wantNum(t, "Rank", a.Rank(k), min(max(k+1, 0)/2, entries))
		}
		wantNum(t, "Rank of the least", a.Rank(math.MinInt), 0)
		wantNum(t, "Rank of the greatest", a.Rank(math.MaxInt), entries)
	}
}

// P5.3: At of each place, and of places below 0 and not below Len.
func TestAt(t *testing.T) {
	for _, entries := range []int{1, 2, 3, 7, 8, 100} {
		a := rising(entries)
		for i := range entries {
			k, v, ok := a.At(i)
			wantEntry(t, "At", k, v, ok, of(2*i, 20*i), true)
		}
		for _, i := range []int{math.MinInt, math.MinInt + 1, -entries, -2, -1, entries, entries + 1, 2 * entries, math.MaxInt - 1, math.MaxInt} {
			k, v, ok := a.At(i)
			wantEntry(t, "At of none", k, v, ok, of(0, 0), false)
		}
	}
}

// P5.3: Seek of keys that are there, of those below, between, and above them.
func TestSeek(t *testing.T) {
	for _, entries := range []int{1, 2, 3, 7, 8, 100} {
		a := rising(entries)
		for k := -3; k <= 2*entries-2; k++ {
			next := max(k+1, 0) / 2 * 2
			l, v, ok := a.Seek(k)
			wantEntry(t, "Seek", l, v, ok, of(next, 10*next), true)
		}
		for _, k := range []int{2*entries - 1, 2 * entries, math.MaxInt} {
			l, v, ok := a.Seek(k)
			wantEntry(t, "Seek above all", l, v, ok, of(0, 0), false)
		}
	}
}

// P5.3: of reals: NaN leads to the first entry, -0 to 0, and the key that is answered is that of the entry.
func TestSeekReals(t *testing.T) {
	a := build(minusZero, 1, math.Inf(1))
	k, v, ok := a.Seek(nan(0))
	wantEntry(t, "Seek(NaN)", k, v, ok, of(minusZero, 0), true)
	k, v, ok = a.Seek(0)
	wantEntry(t, "Seek(0)", k, v, ok, of(minusZero, 0), true)
	k, v, ok = a.Seek(math.Inf(1))
	wantEntry(t, "Seek(+Inf)", k, v, ok, of(math.Inf(1), 2), true)
	wantNum(t, "Rank(NaN)", a.Rank(nan(0)), 0)
	b := a.Put(nan(2), 9)
	k, v, ok = b.Seek(nan(4))
	wantEntry(t, "Seek(NaN) with a NaN", k, v, ok, of(nan(2), 9), true)
	k, v, ok = b.Seek(math.Inf(-1))
	wantEntry(t, "Seek(-Inf) with a NaN", k, v, ok, of(minusZero, 0), true)
	wantNum(t, "Rank(NaN) with a NaN", b.Rank(nan(5)), 0)
	wantNum(t, "Rank(-Inf) with a NaN", b.Rank(math.Inf(-1)), 1)
}
