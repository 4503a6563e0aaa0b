package ranks_test

import (
	"cmp"
	"fmt"
	"math"
	"testing"

	"haulage/api"
	"haulage/ranks"
)

// P6.1: an inverse is from 2 to 1024.
func TestInverses(t *testing.T) {
	for _, inverse := range []int{math.MinInt, -4, -1, 0, 1, 1025, 1026, 1 << 20, math.MaxInt} {
		if ranks.New[int](inverse) != nil {
			t.Errorf("New(%d): a sketch", inverse)
		}
	}
	for inverse := 2; inverse <= 1024; inverse++ {
		if ranks.New[int](inverse) == nil {
			t.Errorf("New(%d): nil", inverse)
		}
	}
}

// P6.1, P6.3 to P6.5: a sketch without entries.
func TestEmpty(t *testing.T) {
	for _, inverse := range []int{2, 3, 1024} {
		wantEmpty(t, inverse, 0, 5, -5, math.MaxInt)
		wantEmpty(t, inverse, 0, nan(1), math.Inf(1))
		wantEmpty(t, inverse, "", "a")
		wantEmpty[uint8](t, inverse, 0, 255)
	}
}

func wantEmpty[T cmp.Ordered](t *testing.T, inverse int, asked ...T) {
	t.Helper()
	s := build[T](t, inverse)
	what := fmt.Sprintf("New(%d)", inverse)
	wantNum(t, what+": Size", s.Size(), 0)
	wantQueries(t, what, s)
	for _, x := range asked {
		wantBelow(t, what, s, x, 0, 0)
	}
}

// P6.2 to P6.5, P0.1: a nil Sketch at each call.
func TestNil(t *testing.T) {
	wantNil(t, 0, 1, -1)
	wantNil(t, 0, nan(1))
	wantNil(t, "", "a")
	if s := ranks.New[string](1); s.Add("a") != api.ErrNil {
		t.Fatal("a Sketch that was refused takes a value")
	}
}

func wantNil[T cmp.Ordered](t *testing.T, values ...T) {
	t.Helper()
	var none *ranks.Sketch[T]
	for _, x := range values {
		wantErr(t, "Add of nil", none.Add(x), api.ErrNil)
		wantBelow(t, "nil", none, x, 0, 0)
	}
	wantNum(t, "Count of nil", none.Count(), 0)
	wantNum(t, "Size of nil", none.Size(), 0)
	for _, rank := range []int{math.MinInt, -1, 0, 1, 2, math.MaxInt} {
		wantNoRank(t, "nil", none, rank, api.ErrNil)
	}
}

// P0.1: a Sketch that New did not make has no inverse, and panics nowhere; it keeps all that it is told.
func TestZeroSketch(t *testing.T) {
	s := &ranks.Sketch[int]{}
	wantQueries(t, "a zero Sketch", s)
	add(t, s, 3, 1, 2, 2)
	wantNum(t, "Size", s.Size(), 4)
	wantQueries(t, "a zero Sketch", s, 1, 2, 2, 3)
	wantBelow(t, "a zero Sketch", s, 2, 3, 3)
}

// P6.2, P6.3: Count is how many were added, Size how many entries are left. With 2 all between the first and the last go at once; with 1024 every second one at the 1024th Add, the first that presses with a bound above 1.
func TestCountAndSize(t *testing.T) {
	narrow, wide := build[int](t, 2), build[int](t, 1024)
	for i := range 1026 {
		wantNum(t, "Count", narrow.Count(), i)
		wantNum(t, "Count", wide.Count(), i)
		wantNum(t, "Size with 2", narrow.Size(), min(i, 2))
		if i < 1024 {
			wantNum(t, "Size with 1024", wide.Size(), i)
		} else {
			wantNum(t, "Size with 1024", wide.Size(), i-511)
		}
		add(t, narrow, i)
		add(t, wide, i)
	}
}
