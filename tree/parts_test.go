package tree_test

import (
	"fmt"
	"math"
	"testing"

	"haulage/api"
	"haulage/tree"
)

// P5.4: Split at keys that are there and at those that are not; Join of the parts is the whole again.
func TestSplitAndJoin(t *testing.T) {
	for _, entries := range []int{0, 1, 2, 3, 10, 100} {
		a := rising(entries)
		all := rows(a.All())
		for k := -3; k < 2*entries+3; k++ {
			low, high := a.Split(k)
			place := a.Rank(k)
			wantRows(t, "Split, below", rows(low.All()), all[:place]...)
			wantRows(t, "Split, the others", rows(high.All()), all[place:]...)
			wantDepth(t, "Split, below", low)
			wantDepth(t, "Split, the others", high)
			j, why := tree.Join(low, high)
			wantErr(t, "Join", why, api.OK)
			wantRows(t, "Join", rows(j.All()), all...)
			wantDepth(t, "Join", j)
		}
	}
}

// P5.4: of reals: NaN parts nothing from the others, and an entry with an equal key is among these.
func TestSplitReals(t *testing.T) {
	a := build(nan(1), math.Inf(-1), minusZero, 4)
	for k, below := range map[float64]int{math.Inf(-1): 1, 0: 2, minusZero: 2, 1: 3, 4: 3, math.Inf(1): 4} {
		low, high := a.Split(k)
		wantNum(t, fmt.Sprint("Split of ", k, ", below"), low.Len(), below)
		wantNum(t, fmt.Sprint("Split of ", k, ", the others"), high.Len(), 4-below)
	}
	low, high := a.Split(nan(2))
	wantNum(t, "Split of NaN, below", low.Len(), 0)
	wantRows(t, "Split of NaN, the others", rows(high.All()), rows(a.All())...)
}

// wantNoJoin asks for ErrArg, and nil beside it.
func wantNoJoin[K int | float64](t *testing.T, what string, a, b *tree.Tree[K, int]) {
	t.Helper()
	j, why := tree.Join(a, b)
	wantErr(t, what, why, api.ErrArg)
	if j != nil {
		t.Fatalf("%s: %v beside the error", what, rows(j.All()))
	}
}

// P5.4: trees whose keys meet, are equal, or stand the wrong way round can't be joined.
func TestJoinRefuses(t *testing.T) {
	wantNoJoin(t, "with itself", build(1), build(1))
	wantNoJoin(t, "the last is the first", build(1, 2, 3), build(3, 4, 5))
	wantNoJoin(t, "the wrong way round", build(4, 5), build(1, 2))
	wantNoJoin(t, "one within the other", build(1, 9), build(4, 5))
	wantNoJoin(t, "the other within the one", build(4, 5), build(1, 9))
	wantNoJoin(t, "they cross", build(1, 5), build(4, 9))
	wantNoJoin(t, "one after another", build(1, 3, 5), build(2, 4, 6))
	wantNoJoin(t, "0 and -0", build(0.0), build(minusZero))
	wantNoJoin(t, "-0 and 0", build(minusZero), build(0.0))
	wantNoJoin(t, "NaN and NaN", build(nan(1)), build(nan(2)))
	wantNoJoin(t, "NaN behind", build(math.Inf(-1)), build(nan(0)))
	a := rising(40)
	wantNoJoin(t, "a greater one with itself", a, a)
}

// P5.4: the last key has only to be below the first one.
func TestJoinNear(t *testing.T) {
	j, why := tree.Join(build(1, 2), build(3, 4))
	wantErr(t, "Join", why, api.OK)
	wantRows(t, "Join", rows(j.All()), of(1, 0), of(2, 1), of(3, 0), of(4, 1))
	r, why := tree.Join(build(nan(5)), build(math.Inf(-1), 0))
	wantErr(t, "Join of reals", why, api.OK)
	wantRows(t, "Join of reals", rows(r.All()), of(nan(5), 0), of(math.Inf(-1), 0), of(0.0, 1))
}

// P5.4: where one is empty, the other's entries are all there are, whatever their keys.
func TestJoinWithNone(t *testing.T) {
	for what, none := range empties(5, 6) {
		for _, a := range []*tree.Tree[int, int]{nil, build(5), rising(30)} {
			j, why := tree.Join(none, a)
			wantErr(t, what+" and a tree", why, api.OK)
			wantRows(t, what+" and a tree", rows(j.All()), rows(a.All())...)
			j, why = tree.Join(a, none)
			wantErr(t, "a tree and "+what, why, api.OK)
			wantRows(t, "a tree and "+what, rows(j.All()), rows(a.All())...)
		}
	}
}
