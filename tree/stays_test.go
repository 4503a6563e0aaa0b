package tree_test

import (
	"fmt"
	"sync"
	"testing"

	"haulage/tree"
)

// use makes of a tree all that can be made of it at some keys.
func use(a *tree.Tree[int, int], keys []int) {
	for _, k := range keys {
		a.Put(k, -1)
		a.Delete(k)
		a.Get(k)
		a.Rank(k)
		a.Seek(k)
		a.At(k)
		low, high := a.Split(k)
		tree.Join(low, high)
		tree.Join(high, low)
		tree.Join(low.Put(k, -2), high.Put(k, -3))
		_, behind := high.Put(k, -4).Split(k + 1)
		tree.Join(low.Put(k, -5), behind)
		for range a.From(k) {
			break
		}
	}
	tree.Join(a, a)
	tree.Join(a, tree.New[int, int]().Put(1<<40, -6))
	tree.Join(tree.New[int, int]().Put(-1<<40, -7), a)
}

// P5.6: each tree of a long row of calls answers all it did, behind all that was made of it and of the others.
func TestEarlierTreesStay(t *testing.T) {
	keys := []int{-1, 0, 1, 2, 5, 8, 13, 14, 20, 31, 39, 40, 41}
	all := []pair[int]{{}}
	for i := range 40 {
		p := all[len(all)-1]
		k := i * 17 % 40
		all = append(all, pair[int]{p.tree.Put(k, i), p.model.put(k, i)})
	}
	for i := range 39 {
		p := all[len(all)-1]
		d, _ := p.tree.Delete(i * 11 % 40)
		m, _ := p.model.remove(i * 11 % 40)
		all = append(all, pair[int]{d, m})
	}
	for _, p := range all {
		use(p.tree, keys)
	}
	for i, p := range all {
		p.check(t, fmt.Sprint("tree ", i), keys)
	}
}

// P5.6: so do the parts of a Split behind their Join, and the trees of a Join behind its changes.
func TestPartsStay(t *testing.T) {
	a := rising(20)
	for k := -1; k < 42; k++ {
		low, high := a.Split(k)
		below, others := rows(low.All()), rows(high.All())
		j, _ := tree.Join(low, high)
		for l := -1; l < 42; l++ {
			j.Put(l, -1)
			j.Delete(l)
			j.Split(l)
			low.Put(l, -2)
			high.Delete(l)
		}
		wantRows(t, "below", rows(low.All()), below...)
		wantRows(t, "the others", rows(high.All()), others...)
		wantRows(t, "the whole", rows(a.All()), rows(rising(20).All())...)
	}
}

// P5.5, P5.6: a sequence gives the entries of its tree, whatever was made of that since it began or since it was asked for.
func TestSequencesStay(t *testing.T) {
	a := rising(12)
	for _, s := range sequences(a) {
		use(a, []int{0, 3, 4, 23, 24})
		var got []entry[int, int]
		for k, v := range s.seq {
			got = append(got, of(k, v))
			use(a, []int{k - 1, k, k + 1})
			b := a
			for l := range b.All() {
				b, _ = b.Delete(l)
			}
		}
		wantRows(t, s.what, got, s.rows...)
	}
}

// P5.6: a tree that many use at one time answers each of them as if it were alone.
func TestUsedAtOneTime(t *testing.T) {
	a := rising(30)
	var group sync.WaitGroup
	var got [8][]entry[int, int]
	for i := range got {
		group.Go(func() {
			use(a, []int{i, 2 * i, 3 * i})
			got[i] = rows(a.Put(i, -i).All())
		})
	}
	group.Wait()
	for i, g := range got {
		wantRows(t, fmt.Sprint("use ", i), g, rows(rising(30).Put(i, -i).All())...)
	}
	wantRows(t, "the tree", rows(a.All()), rows(rising(30).All())...)
}
