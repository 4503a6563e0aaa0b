package tree_test

import (
	"fmt"
	"math/rand"
	"testing"

	"haulage/api"
	"haulage/tree"
)

// P5.7: the depths that can't be otherwise.
func TestDepthOfFew(t *testing.T) {
	wantNum(t, "of none", build[int]().Depth(), 0)
	wantNum(t, "of one", build(1).Depth(), 1)
	wantNum(t, "of two", build(1, 2).Depth(), 2)
	for _, row := range [][]int{{1, 2, 3}, {1, 3, 2}, {2, 1, 3}, {2, 3, 1}, {3, 1, 2}, {3, 2, 1}} {
		wantDepth(t, fmt.Sprint(row), build(row...))
	}
}

// rowsOfKeys are rows in which keys may come: rising, falling, from both ends, from the middle, in leaps, by dice.
func rowsOfKeys(keys int) map[string][]int {
	all := map[string][]int{"by dice": rand.New(rand.NewSource(5)).Perm(keys)}
	for i := range keys {
		all["rising"] = append(all["rising"], i)
		all["falling"] = append(all["falling"], keys-i)
		all["in leaps"] = append(all["in leaps"], i*377%keys)
		if i%2 == 0 {
			all["from both ends"] = append(all["from both ends"], i)
			all["from the middle"] = append(all["from the middle"], keys+i)
		} else {
			all["from both ends"] = append(all["from both ends"], 2*keys-i)
			all["from the middle"] = append(all["from the middle"], keys-i)
		}
	}
	return all
}

// P5.7: trees that grow and shrink by each row against each other one.
func TestDepthOfRows(t *testing.T) {
	for how, row := range rowsOfKeys(1000) {
		a := tree.New[int, int]()
		for i, k := range row {
			a = a.Put(k, i)
			wantDepth(t, how, a)
		}
		wantNum(t, "Len", a.Len(), 1000)
		for other, less := range rowsOfKeys(1000) {
			b := a
			for _, k := range less {
				b, _ = b.Delete(k)
				wantDepth(t, how+", then less "+other, b)
			}
		}
		for b := a; b.Len() > 0; {
			k, _, _ := b.At(b.Len() * 2 / 3)
			b, _ = b.Delete(k)
			wantDepth(t, how+", then less in the middle", b)
		}
	}
}

// P5.7: trees that keys go into on one side while others go out on the other.
func TestDepthOfQueue(t *testing.T) {
	a := rising(100)
	for i := range 3000 {
		a = a.Put(200+2*i, 0)
		a, _ = a.Delete(2 * i)
		wantDepth(t, "a queue", a)
		wantNum(t, "Len", a.Len(), 100)
	}
}

// P5.7: trees of all lengths joined with those of all others, and parted again at other places.
func TestDepthOfParts(t *testing.T) {
	var rest []*tree.Tree[int, int]
	lengths := []int{0, 1, 2, 3, 4, 7, 8, 20, 54, 55, 376, 1000}
	for _, n := range lengths {
		_, high := rising(1000 + n).Split(2000)
		rest = append(rest, high)
	}
	for i, n := range lengths {
		low := rising(n)
		for k, high := range rest {
			j, why := tree.Join(low, high)
			wantErr(t, "Join", why, api.OK)
			wantNum(t, "Len", j.Len(), n+lengths[k])
			wantDepth(t, fmt.Sprintf("Join of %d and %d", lengths[i], lengths[k]), j)
			for at := 0; at < 4000; at += 97 {
				a, b := j.Split(at)
				wantDepth(t, "Split, below", a)
				wantDepth(t, "Split, the others", b)
			}
		}
	}
}

// P5.7: a tree that is put together of single ones, and one that is cut to pieces and put together again, over and over.
func TestDepthOfManyJoins(t *testing.T) {
	var a *tree.Tree[int, int]
	for i := range 500 {
		a, _ = tree.Join(a, tree.New[int, int]().Put(i, i))
		wantDepth(t, "one by one at the end", a)
	}
	var b *tree.Tree[int, int]
	for i := range 500 {
		b, _ = tree.Join(tree.New[int, int]().Put(-i, i), b)
		wantDepth(t, "one by one ahead", b)
	}
	dice := rand.New(rand.NewSource(8))
	for range 3000 {
		low, high := a.Split(dice.Intn(500))
		wantDepth(t, "below", low)
		wantDepth(t, "the others", high)
		a, _ = tree.Join(low, high)
		wantDepth(t, "together again", a)
	}
	wantNum(t, "Len", a.Len(), 500)
}
