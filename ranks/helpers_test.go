package ranks_test

import (
	"cmp"
	"fmt"
	"math"
	"testing"

	"haulage/api"
	"haulage/ranks"
)

// minusZero is no constant that could be written.
var minusZero = math.Copysign(0, -1)

// nan is a NaN of its own for each number.
func nan(number uint64) float64 { return math.Float64frombits(0x7FF8000000000000 + number) }

// exact says whether two are the very same: a NaN only that with its bits, -0 not 0.
func exact(a, b any) bool {
	x, isReal := a.(float64)
	y, isToo := b.(float64)
	if isReal && isToo {
		return math.Float64bits(x) == math.Float64bits(y)
	}
	return a == b
}

// add tells a sketch values one by one.
func add[T cmp.Ordered](t *testing.T, s *ranks.Sketch[T], row ...T) {
	t.Helper()
	for _, x := range row {
		wantErr(t, fmt.Sprintf("Add(%v)", x), s.Add(x), api.OK)
	}
}

// build makes a sketch of these values.
func build[T cmp.Ordered](t *testing.T, inverse int, row ...T) *ranks.Sketch[T] {
	t.Helper()
	s := ranks.New[T](inverse)
	if s == nil {
		t.Fatalf("New(%d): nil", inverse)
	}
	add(t, s, row...)
	return s
}

func wantErr(t *testing.T, what string, got, wanted api.Errno) {
	t.Helper()
	if got != wanted {
		t.Fatalf("%s: error %d, want %d", what, got, wanted)
	}
}

func wantNum(t *testing.T, what string, got, wanted int) {
	t.Helper()
	if got != wanted {
		t.Fatalf("%s: %d, want %d", what, got, wanted)
	}
}

// wantQueries asks for the values at the ranks 1, 2, .., that these are all ranks, and that there are none beside them.
func wantQueries[T cmp.Ordered](t *testing.T, what string, s *ranks.Sketch[T], wanted ...T) {
	t.Helper()
	wantNum(t, what+": Count", s.Count(), len(wanted))
	for i, w := range wanted {
		x, err := s.Query(i + 1)
		if err != api.OK || !exact(x, w) {
			t.Fatalf("%s: Query(%d): %v, error %d, want %v", what, i+1, x, err, w)
		}
	}
	for _, rank := range []int{math.MinInt, -1, 0, len(wanted) + 1, len(wanted) + 2, math.MaxInt} {
		wantNoRank(t, what, s, rank, api.ErrRankNone)
	}
}

// wantNoRank asks for an error, and a zero value beside it.
func wantNoRank[T cmp.Ordered](t *testing.T, what string, s *ranks.Sketch[T], rank int, wanted api.Errno) {
	t.Helper()
	var zero T
	x, err := s.Query(rank)
	if err != wanted || !exact(x, zero) {
		t.Fatalf("%s: Query(%d): %v, error %d, want error %d", what, rank, x, err, wanted)
	}
}

func wantBelow[T cmp.Ordered](t *testing.T, what string, s *ranks.Sketch[T], x T, low, high int) {
	t.Helper()
	if a, b := s.Below(x); a != low || b != high {
		t.Fatalf("%s: Below(%v): %d %d, want %d %d", what, x, a, b, low, high)
	}
}
