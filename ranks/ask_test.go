package ranks_test

import (
	"math"
	"testing"

	"haulage/api"
	"haulage/ranks"
)

// P6.2, P6.4: values that are alike stand in the order in which they were added; NaNs come ahead of all, 0 and -0 are alike.
func TestAlike(t *testing.T) {
	s := build(t, 100, 0, nan(1), minusZero, 1, nan(2), 0, math.Inf(-1), nan(3), minusZero, math.Inf(1))
	wantQueries(t, "reals", s, nan(1), nan(2), nan(3), math.Inf(-1), 0, minusZero, 0, minusZero, 1, math.Inf(1))
	wantBelow(t, "reals", s, nan(9), 3, 3)
	wantBelow(t, "reals", s, math.Inf(-1), 4, 4)
	wantBelow(t, "reals", s, -1, 4, 4)
	wantBelow(t, "reals", s, 0, 8, 8)
	wantBelow(t, "reals", s, minusZero, 8, 8)
	wantBelow(t, "reals", s, 0.5, 8, 8)
	wantBelow(t, "reals", s, math.Inf(1), 10, 10)
}

// P6.2: of NaNs that are pressed the one behind stays, with its own bits, and the first and the last of all.
func TestAlikePressed(t *testing.T) {
	s := build(t, 4, nan(1), nan(2), nan(3), nan(4))
	wantNum(t, "Size", s.Size(), 3)
	wantQueries(t, "NaNs", s, nan(1), nan(2), nan(2), nan(4))
	z := build(t, 4, 0, minusZero, 0, minusZero)
	wantQueries(t, "zeros", z, 0, minusZero, minusZero, minusZero)
}

// P6.4, P6.5: texts, by their bytes.
func TestTexts(t *testing.T) {
	s := build(t, 10, "b", "", "ab", "\xff", "B")
	wantQueries(t, "texts", s, "", "B", "ab", "b", "\xff")
	wantBelow(t, "texts", s, "", 1, 1)
	wantBelow(t, "texts", s, "a", 2, 2)
	wantBelow(t, "texts", s, "\xff\xff", 5, 5)
}

// name is a type of its own that has an order.
type name string

// P6.1: a sketch is of any values with an order, whatever their kind and name.
func TestKinds(t *testing.T) {
	wantQueries(t, "names", build[name](t, 7, "z", "y", "x"), "x", "y", "z")
	wantQueries(t, "int8", build[int8](t, 7, 127, -128, 0), -128, 0, 127)
	wantQueries(t, "uint64", build[uint64](t, 7, math.MaxUint64, 0, 1<<63), 0, 1<<63, math.MaxUint64)
	wantQueries(t, "float32", build[float32](t, 7, 2, -1, 0.5), -1, 0.5, 2)
	wantQueries(t, "ints", build(t, 7, math.MaxInt, math.MinInt, 0), math.MinInt, 0, math.MaxInt)
}

// P6.4: of several entries with the least distance it is the first; the distance is the greater of both sides, so that a wide gap is far.
func TestNearest(t *testing.T) {
	s := build(t, 4, 5, 1, 4, 2, 3, 9) // 1 (floor 1, ceiling 1), 3 (3, 4), 9 (6, 6)
	wantQueries(t, "three entries", s, 1, 1, 3, 3, 9, 9)
	add(t, s, 3) // another 3 (4, 6) ahead of 9 (7, 7)
	wantQueries(t, "four entries", s, 1, 1, 3, 3, 3, 9, 9)
}

// P6.5: values ahead of the first entry and behind the last, at them and between, pressed and not.
func TestBelow(t *testing.T) {
	s := build(t, 4, 50, 10, 40, 20, 30, 90) // 10 (floor 1, ceiling 1), 30 (3, 4), 90 (6, 6)
	for _, row := range []struct{ x, low, high int }{
		{math.MinInt, 0, 0}, {9, 0, 0}, {10, 1, 3}, {11, 1, 3}, {29, 1, 3}, {30, 3, 5}, {89, 3, 5}, {90, 6, 6}, {91, 6, 6}, {math.MaxInt, 6, 6},
	} {
		wantBelow(t, "three entries", s, row.x, row.low, row.high)
	}
	one := build(t, 2, 7)
	wantBelow(t, "one entry", one, 6, 0, 0)
	wantBelow(t, "one entry", one, 7, 1, 1)
	wantBelow(t, "one entry", one, 8, 1, 1)
}

// P6.4, P6.5: asking changes nothing: a sketch that is asked at each turn comes out like one that is not.
func TestAskingChangesNothing(t *testing.T) {
	for _, inverse := range smallInverses {
		asked, quiet := build[int](t, inverse), build[int](t, inverse)
		for i := range 200 {
			x := i * 61 % 127
			add(t, asked, x)
			add(t, quiet, x)
			for r := -1; r <= i+2; r++ {
				asked.Query(r)
				asked.Below(r)
			}
			asked.Count()
			asked.Size()
		}
		wantLike(t, asked, quiet)
	}
}

// wantLike asks two sketches for all that they can answer.
func wantLike(t *testing.T, a, b *ranks.Sketch[int]) {
	t.Helper()
	wantNum(t, "Size", a.Size(), b.Size())
	wanted := make([]int, b.Count())
	for i := range wanted {
		wanted[i], _ = b.Query(i + 1)
	}
	wantQueries(t, "two sketches", a, wanted...)
	for x := -1; x <= 130; x++ {
		low, high := b.Below(x)
		wantBelow(t, "two sketches", a, x, low, high)
	}
}

// P6.1: two sketches side by side have nothing to do with one another, of one inverse and of two.
func TestSideBySide(t *testing.T) {
	a, b, c := build[int](t, 6), build[int](t, 6), build[int](t, 9)
	var rowA, rowB, rowC []int
	for i := range 300 {
		x, y, z := i*7%101, 120-i%97, i
		rowA, rowB, rowC = append(rowA, x), append(rowB, y), append(rowC, z)
		add(t, a, x)
		add(t, b, y)
		add(t, c, z)
	}
	wantLike(t, a, build(t, 6, rowA...))
	wantLike(t, b, build(t, 6, rowB...))
	wantLike(t, c, build(t, 9, rowC...))
}

// P6.4, P0.2: which error comes first, and what stands beside it.
func TestRefusedRanks(t *testing.T) {
	s := build(t, 3, "x", "y", "z", "z")
	for _, rank := range []int{math.MinInt, -4, 0, 5, math.MaxInt} {
		wantNoRank(t, "four texts", s, rank, api.ErrRankNone)
	}
	wantNum(t, "ErrRankNone", int(api.ErrRankNone), 60)
}
