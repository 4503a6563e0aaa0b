package tree_test

import (
	"cmp"
	"fmt"
	"math"
	"math/rand"
	"slices"
	"testing"

	"haulage/api"
	"haulage/tree"
)

// model is a second telling of the chapter: entries in the order of their keys, gone through one by one.
type model[K cmp.Ordered] []entry[K, int]

// before is the order of keys without the library's word for it.
func before[K cmp.Ordered](a, b K) bool { return a < b || a != a && b == b }

// part is the entries that are as is asked, in memory of their own.
func (m model[K]) part(is func(k K) bool) model[K] {
	var got model[K]
	for _, e := range m {
		if is(e.key) {
			got = append(got, e)
		}
	}
	return got
}

func (m model[K]) below(k K) model[K] { return m.part(func(l K) bool { return before(l, k) }) }

func (m model[K]) from(k K) model[K] { return m.part(func(l K) bool { return !before(l, k) }) }

func (m model[K]) above(k K) model[K] { return m.part(func(l K) bool { return before(k, l) }) }

func (m model[K]) put(k K, v int) model[K] {
	return append(append(m.below(k), of(k, v)), m.above(k)...)
}

func (m model[K]) remove(k K) (model[K], bool) {
	left := append(m.below(k), m.above(k)...)
	return left, len(left) < len(m)
}

func (m model[K]) join(n model[K]) (model[K], api.Errno) {
	if len(m) > 0 && len(n) > 0 && !before(m[len(m)-1].key, n[0].key) {
		return nil, api.ErrArg
	}
	return append(slices.Clone(m), n...), api.OK
}

// at is the entry at a place, or an empty one.
func (m model[K]) at(i int) (entry[K, int], bool) {
	if i < 0 || i >= len(m) {
		return entry[K, int]{}, false
	}
	return m[i], true
}

// pair is a tree and what it should be.
type pair[K cmp.Ordered] struct {
	tree  *tree.Tree[K, int]
	model model[K]
}

// check holds all that a tree answers against its model, asked with keys of the pool.
func (p pair[K]) check(t *testing.T, what string, pool []K) {
	t.Helper()
	wantNum(t, what+": Len", p.tree.Len(), len(p.model))
	wantDepth(t, what, p.tree)
	wantRows(t, what+": All", rows(p.tree.All()), p.model...)
	other := slices.Clone(p.model)
	slices.Reverse(other)
	wantRows(t, what+": Down", rows(p.tree.Down()), other...)
	for i := -2; i < len(p.model)+2; i++ {
		k, v, ok := p.tree.At(i)
		e, there := p.model.at(i)
		wantEntry(t, fmt.Sprint(what, ": At ", i), k, v, ok, e, there)
	}
	for _, k := range pool {
		p.checkKey(t, fmt.Sprint(what, ": of ", k), k)
	}
}

// checkKey is check for the calls that have a key.
func (p pair[K]) checkKey(t *testing.T, what string, k K) {
	t.Helper()
	less, rest := p.model.below(k), p.model.from(k)
	wantNum(t, what+": Rank", p.tree.Rank(k), len(less))
	e, there := rest.at(0)
	l, v, ok := p.tree.Seek(k)
	wantEntry(t, what+": Seek", l, v, ok, e, there)
	wantRows(t, what+": From", rows(p.tree.From(k)), rest...)
	equal := there && !before(k, e.key)
	if !equal {
		e.value = 0
	}
	v, ok = p.tree.Get(k)
	wantValue(t, what+": Get", v, ok, e.value, equal)
}

// step makes one or two trees out of those that are there by a call of any kind.
func step[K cmp.Ordered](t *testing.T, dice *rand.Rand, all []pair[K], k K, v int) []pair[K] {
	p, q := all[dice.Intn(len(all))], all[dice.Intn(len(all))]
	if latest := all[len(all)-1]; dice.Intn(2) == 0 {
		p = latest
	}
	switch dice.Intn(8) {
	case 0, 1:
		d, was := p.tree.Delete(k)
		m, there := p.model.remove(k)
		if was != there {
			t.Fatalf("Delete of %v: %v", k, was)
		}
		return []pair[K]{{d, m}}
	case 2:
		a, b := p.tree.Split(k)
		return []pair[K]{{a, p.model.below(k)}, {b, p.model.from(k)}}
	case 3:
		a, _ := p.tree.Split(k)
		_, b := q.tree.Split(k)
		p, q = pair[K]{a, p.model.below(k)}, pair[K]{b, q.model.from(k)}
		fallthrough
	case 4:
		j, why := tree.Join(p.tree, q.tree)
		m, wanted := p.model.join(q.model)
		if why != wanted || why != api.OK && j != nil {
			t.Fatalf("Join of %v and %v: %v, %d", p.model, q.model, j, why)
		}
		return []pair[K]{{j, m}}
	}
	return []pair[K]{{p.tree.Put(k, v), p.model.put(k, v)}}
}

// script makes many trees, each out of earlier ones, holds each against its model when it is made, and all of them behind all calls.
func script[K cmp.Ordered](t *testing.T, seed int64, steps int, pool []K) {
	dice := rand.New(rand.NewSource(seed))
	all := []pair[K]{{}}
	for i := range steps {
		for _, p := range step(t, dice, all, pool[dice.Intn(len(pool))], i+1) {
			p.check(t, fmt.Sprintf("tree %d", len(all)), pool)
			all = append(all, p)
		}
	}
	for i, p := range all {
		p.check(t, fmt.Sprintf("tree %d at the end", i), pool)
	}
}

// reals has each real number that stands by itself, several NaNs, and what is beside them.
func reals() []float64 {
	return []float64{
		0, minusZero, nan(0), nan(1), nan(1 << 63), math.Inf(1), math.Inf(-1), 1, -1, 0.5, -0.5,
		math.SmallestNonzeroFloat64, -math.SmallestNonzeroFloat64, math.MaxFloat64, -math.MaxFloat64, 1 << 53,
	}
}

// P5.1 to P5.7: trees of keys of all kinds, by any calls in any order, answer what the words of the chapter say, when they are made and behind all later calls.
func TestScripts(t *testing.T) {
	var few, many []int
	for i := range 9 {
		few = append(few, i-4)
	}
	for i := range 60 {
		many = append(many, i*i-300)
	}
	for seed := range int64(12) {
		script(t, seed, 150, few)
		script(t, seed, 150, many)
		script(t, seed, 150, reals())
		script(t, seed, 150, []string{"", "a", "a\x00", "aa", "b", "\xff", "\xff\xff", "é", "z"})
		script(t, seed, 150, []uint64{0, 1, 1 << 63, 1<<63 - 1, math.MaxUint64, 7})
		script(t, seed, 150, []int64{math.MinInt64, -1, 0, 1, math.MaxInt64})
	}
}

// P5.1 to P5.7: all rows of up to 6 keys, put one behind the other, and taken away again in the same row.
func TestAllRowsOfKeys(t *testing.T) {
	pool := []int{-1, 0, 1, 2, 3, 4, 5, 6}
	var grow func(p pair[int], row []int, left int)
	grow = func(p pair[int], row []int, left int) {
		p.check(t, fmt.Sprint("put ", row), pool)
		less := p
		for _, k := range row {
			less.tree, _ = less.tree.Delete(k)
			less.model, _ = less.model.remove(k)
			less.check(t, fmt.Sprint("put ", row, ", deleted to ", k), pool)
		}
		for k := range 6 {
			if left > 0 && !slices.Contains(row, k) {
				grow(pair[int]{p.tree.Put(k, k+9), p.model.put(k, k+9)}, append(slices.Clone(row), k), left-1)
			}
		}
	}
	grow(pair[int]{}, nil, 6)
}
