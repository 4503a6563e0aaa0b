package tree_test

import (
	"cmp"
	"iter"
	"math"
	"math/bits"
	"testing"

	"haulage/api"
	"haulage/tree"
)

// minusZero is no constant that could be written.
var minusZero = math.Copysign(0, -1)

// nan is a NaN of its own for each number.
func nan(number uint64) float64 { return math.Float64frombits(0x7FF8000000000000 + number) }

// exact says whether two are the very same: a NaN only that with its bits, -0 not 0.
func exact(a, b any) bool {
	x, isReal := a.(float64)
	y, isToo := b.(float64)
	if isReal && isToo {
		return math.Float64bits(x) == math.Float64bits(y)
	}
	return a == b
}

type entry[K cmp.Ordered, V comparable] struct {
	key   K
	value V
}

func of[K cmp.Ordered, V comparable](k K, v V) entry[K, V] { return entry[K, V]{k, v} }

// rows is what a sequence gives.
func rows[K cmp.Ordered, V comparable](seq iter.Seq2[K, V]) []entry[K, V] {
	var all []entry[K, V]
	for k, v := range seq {
		all = append(all, of(k, v))
	}
	return all
}

// build puts keys one behind the other, each with its place in the row as the value.
func build[K cmp.Ordered](row ...K) *tree.Tree[K, int] {
	made := tree.New[K, int]()
	for i, k := range row {
		made = made.Put(k, i)
	}
	return made
}

// rising is a tree with the keys 0, 2, .. of so many entries, each value ten times its key.
func rising(entries int) *tree.Tree[int, int] {
	made := tree.New[int, int]()
	for i := range entries {
		made = made.Put(2*i, 20*i)
	}
	return made
}

func wantRows[K cmp.Ordered, V comparable](t *testing.T, what string, got []entry[K, V], wanted ...entry[K, V]) {
	t.Helper()
	if len(got) != len(wanted) {
		t.Fatalf("%s: %v, want %v", what, got, wanted)
	}
	for i, e := range got {
		if !exact(e.key, wanted[i].key) || !exact(e.value, wanted[i].value) {
			t.Fatalf("%s, entry %d: %v, want %v", what, i, e, wanted[i])
		}
	}
}

func wantNum(t *testing.T, what string, got, wanted int) {
	t.Helper()
	if got != wanted {
		t.Fatalf("%s: %d, want %d", what, got, wanted)
	}
}

// wantValue asks for what Get answers.
func wantValue[V comparable](t *testing.T, what string, v V, ok bool, wanted V, there bool) {
	t.Helper()
	if !exact(v, wanted) || ok != there {
		t.Fatalf("%s: %v, %v, want %v, %v", what, v, ok, wanted, there)
	}
}

// wantEntry asks for what At and Seek answer.
func wantEntry[K cmp.Ordered, V comparable](t *testing.T, what string, k K, v V, ok bool, wanted entry[K, V], there bool) {
	t.Helper()
	if !exact(k, wanted.key) || !exact(v, wanted.value) || ok != there {
		t.Fatalf("%s: %v, %v, %v, want %v, %v", what, k, v, ok, wanted, there)
	}
}

func wantErr(t *testing.T, what string, got, wanted api.Errno) {
	t.Helper()
	if got != wanted {
		t.Fatalf("%s: error %d, want %d", what, got, wanted)
	}
}

// wantDepth holds a depth against P5.7, and against what can't be: so many nodes in fewer rows.
func wantDepth[K cmp.Ordered, V any](t *testing.T, what string, got *tree.Tree[K, V]) {
	t.Helper()
	digits := bits.Len(uint(got.Len()))
	if d := got.Depth(); d > 2*digits || d < digits {
		t.Fatalf("%s: depth %d of %d entries", what, d, got.Len())
	}
}

// empties are trees without entries, by all ways to make one.
func empties[K cmp.Ordered, V any](k K, v V) map[string]*tree.Tree[K, V] {
	one := tree.New[K, V]().Put(k, v)
	less, more := one.Split(k)
	less2, more2 := less.Split(k)
	gone, _ := more.Delete(k)
	joined, _ := tree.Join(gone, nil)
	_, behind := (*tree.Tree[K, V])(nil).Split(k)
	still, _ := (*tree.Tree[K, V])(nil).Delete(k)
	return map[string]*tree.Tree[K, V]{
		"nil": nil, "New": tree.New[K, V](), "zero": {}, "Split's lesser part": less, "Delete of the only one": gone,
		"Join of two empty ones": joined, "Split of an empty one": less2, "its other part": more2, "Split of nil": behind, "Delete of nil": still,
	}
}
