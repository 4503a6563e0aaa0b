package ranks_test

import (
	"cmp"
	"fmt"
	"math/rand"
	"slices"
	"testing"

	"haulage/api"
	"haulage/ranks"
)

// held is a sketch and the row of all that was added to it.
type held[T cmp.Ordered] struct {
	what    string
	inverse int
	sketch  *ranks.Sketch[T]
	row     []T
}

// hold makes a sketch of values.
func hold[T cmp.Ordered](t *testing.T, what string, inverse int, values []T) held[T] {
	t.Helper()
	row := slices.Clone(values)
	slices.SortStableFunc(row, cmp.Compare[T])
	return held[T]{fmt.Sprintf("%s, inverse %d, n %d", what, inverse, len(values)), inverse, build(t, inverse, values...), row}
}

// wantNear is P6.7.
func (h held[T]) wantNear(t *testing.T) {
	t.Helper()
	n := len(h.row)
	for r := 1; r <= n; r++ {
		x, err := h.sketch.Query(r)
		wantErr(t, h.what, err, api.OK)
		least, most := h.row[max(1, r-n/h.inverse)-1], h.row[min(n, r+n/h.inverse)-1]
		if cmp.Compare(x, least) < 0 || cmp.Compare(x, most) > 0 || !slices.ContainsFunc(h.row, func(y T) bool { return cmp.Compare(x, y) == 0 }) {
			t.Fatalf("%s: Query(%d): %v, want from %v to %v", h.what, r, x, least, most)
		}
	}
	for _, end := range []int{1, n} {
		if x, _ := h.sketch.Query(end); cmp.Compare(x, h.row[end-1]) != 0 {
			t.Fatalf("%s: Query(%d): %v, want %v", h.what, end, x, h.row[end-1])
		}
	}
}

// wantCounted is P6.8.
func (h held[T]) wantCounted(t *testing.T, asked []T) {
	t.Helper()
	n := len(h.row)
	for _, x := range asked {
		count := 0
		for count < n && cmp.Compare(h.row[count], x) <= 0 {
			count++
		}
		low, high := h.sketch.Below(x)
		if low > count || count > high || high-low > max(0, 2*n/h.inverse-1) {
			t.Fatalf("%s: Below(%v): %d %d, want %d between", h.what, x, low, high, count)
		}
	}
}

// wantFew is P6.9.
func (h held[T]) wantFew(t *testing.T, asked []T) {
	t.Helper()
	n := len(h.row)
	if h.sketch.Size() > n {
		t.Fatalf("%s: Size %d", h.what, h.sketch.Size())
	}
	if n >= h.inverse {
		return
	}
	wantQueries(t, h.what, h.sketch, h.row...)
	for _, x := range asked {
		if low, high := h.sketch.Below(x); low != high {
			t.Fatalf("%s: Below(%v): %d %d", h.what, x, low, high)
		}
	}
}

func (h held[T]) check(t *testing.T, asked []T) {
	t.Helper()
	h.wantNear(t)
	h.wantCounted(t, asked)
	h.wantFew(t, asked)
}

// P6.7 to P6.9: rows of all shapes, at lengths about the inverse and at those at which many entries go.
func TestHoldsOfShapes(t *testing.T) {
	for _, inverse := range []int{2, 3, 4, 5, 10, 11, 64, 99} {
		for _, length := range []int{1, 2, 3, inverse - 1, inverse, inverse + 1, 2*inverse + 1, 700} {
			for what, row := range shaped(length) {
				asked := append([]int{-1, length + 1, 20 * length}, row...)
				hold(t, what, inverse, row).check(t, asked[:min(len(asked), 200)])
			}
		}
	}
}

// P6.9: as long as n is below the inverse nothing is lost, up to the widest one.
func TestExactBelowInverse(t *testing.T) {
	for _, inverse := range []int{500, 501, 1023, 1024} {
		row := rand.New(rand.NewSource(9)).Perm(inverse - 1)
		h := hold(t, "mixed", inverse, row)
		wantNum(t, h.what+": Size", h.sketch.Size(), inverse-1)
		h.check(t, row)
	}
}

// P6.7 to P6.9: long rows at wide inverses, of which few entries are left.
func TestHoldsOfLong(t *testing.T) {
	for what, row := range shaped(20000) {
		for _, inverse := range []int{20, 333, 1024} {
			h := hold(t, what, inverse, row)
			if h.sketch.Size() > 5*inverse {
				t.Errorf("%s: Size %d", h.what, h.sketch.Size())
			}
			h.wantCounted(t, append([]int{-1, 400000}, row[:40]...))
			for r := 1; r <= len(row); r += 97 {
				x, _ := h.sketch.Query(r)
				off := len(row) / inverse
				if x < h.row[max(0, r-1-off)] || x > h.row[min(len(row)-1, r-1+off)] {
					t.Fatalf("%s: Query(%d): %d", h.what, r, x)
				}
			}
		}
	}
}

// P6.7 to P6.9: reals with NaNs and both zeros, and texts.
func TestHoldsOfOthers(t *testing.T) {
	dice := rand.New(rand.NewSource(8))
	reals := []float64{nan(1), nan(2), minusZero, 0, -1, 3, 4, 1e9}
	texts := []string{"", "a", "aa", "b", "\x00", "\xfe"}
	for _, inverse := range []int{2, 3, 7, 12, 100} {
		for range 10 {
			length := 1 + dice.Intn(300)
			hold(t, "reals", inverse, pick(dice, length, reals)).check(t, append([]float64{nan(7), 3.5}, reals...))
			hold(t, "texts", inverse, pick(dice, length, texts)).check(t, append([]string{"ab", "c"}, texts...))
		}
	}
}
