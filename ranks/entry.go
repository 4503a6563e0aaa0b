package ranks

import (
	"cmp"
	"slices"
	"sort"
)

// entry is an added value that is kept. It stands for as many of the row as its gain: those since the entry ahead of it.
type entry[T cmp.Ordered] struct {
	value T
	gain  int
	gap   int
}

// width is how far the ceiling stands from the floor of the entry ahead: by as much as that can a rank between the two be off.
func (e entry[T]) width() int { return e.gain + e.gap }

// place is that of the first entry whose value comes behind x; so that x, put there, stands behind all that are alike.
func place[T cmp.Ordered](entries []entry[T], x T) int {
	return sort.Search(len(entries), func(i int) bool { return cmp.Compare(entries[i].value, x) > 0 })
}

// gapAt is the gap of a new entry at this place. At the ends its rank is known: it is the least or the greatest of all.
func gapAt[T cmp.Ordered](entries []entry[T], place int) int {
	if place == 0 || place == len(entries) {
		return 0
	}
	return entries[place].width() - 1
}

// gains is the floor of the last of these, if they are the first ones of a sketch.
func gains[T cmp.Ordered](entries []entry[T]) int {
	sum := 0
	for _, e := range entries {
		sum += e.gain
	}
	return sum
}

// press lets entries go into the one behind them, as long as that grows no wider than the bound. The first and the last stay: they are the least and the greatest value.
func press[T cmp.Ordered](entries []entry[T], bound int) []entry[T] {
	behind := len(entries) - 1
	if behind < 1 {
		return entries
	}
	for i := behind - 1; i > 0; i-- {
		if entries[i].gain+entries[behind].width() <= bound {
			entries[behind].gain += entries[i].gain
			continue
		}
		behind--
		entries[behind] = entries[i]
	}
	return slices.Delete(entries, 1, behind)
}

// nearest is the value whose floor and ceiling are least far from a rank, of several the first.
func nearest[T cmp.Ordered](entries []entry[T], rank int) T {
	var value T
	floor, least := 0, 0
	for i, e := range entries {
		floor += e.gain
		distance := max(rank-floor, floor+e.gap-rank)
		if i == 0 || distance < least {
			value, least = e.value, distance
		}
	}
	return value
}
