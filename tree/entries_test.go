package tree_test

import (
	"math"
	"testing"

	"haulage/api"
	"haulage/tree"
)

// P5.1 to P5.5, P5.7, P0.1: each call on a tree without entries, however that was made.
func TestEmptyTrees(t *testing.T) {
	for what, none := range empties("k", 7) {
		for _, k := range []string{"", "k", "z"} {
			v, ok := none.Get(k)
			wantValue(t, what+": Get", v, ok, 0, false)
			wantNum(t, what+": Rank", none.Rank(k), 0)
			l, v, ok := none.Seek(k)
			wantEntry(t, what+": Seek", l, v, ok, of("", 0), false)
			wantRows(t, what+": From", rows(none.From(k)))
			a, b := none.Split(k)
			wantNum(t, what+": Split", a.Len()+b.Len(), 0)
			d, was := none.Delete(k)
			if d.Len() != 0 || was {
				t.Fatalf("%s: Delete: %d entries, %v", what, d.Len(), was)
			}
			wantRows(t, what+": Put", rows(none.Put(k, 5).All()), of(k, 5))
		}
		for _, i := range []int{math.MinInt, -1, 0, 1, math.MaxInt} {
			k, v, ok := none.At(i)
			wantEntry(t, what+": At", k, v, ok, of("", 0), false)
		}
		wantNum(t, what+": Len", none.Len(), 0)
		wantNum(t, what+": Depth", none.Depth(), 0)
		wantRows(t, what+": All", rows(none.All()))
		wantRows(t, what+": Down", rows(none.Down()))
	}
}

// P5.1: Get of each key, and of those below, between and above them; Len.
func TestGet(t *testing.T) {
	a := rising(100)
	wantNum(t, "Len", a.Len(), 100)
	for k := -3; k < 204; k++ {
		v, ok := a.Get(k)
		if k < 0 || k >= 200 || k%2 == 1 {
			wantValue(t, "Get of none", v, ok, 0, false)
		} else {
			wantValue(t, "Get", v, ok, 10*k, true)
		}
	}
}

// P5.1: an entry may have the zero value, and the zero of its keys.
func TestZerosAreEntries(t *testing.T) {
	a := tree.New[int, int]().Put(0, 0)
	wantNum(t, "Len", a.Len(), 1)
	v, ok := a.Get(0)
	wantValue(t, "Get(0)", v, ok, 0, true)
	k, v, ok := a.At(0)
	wantEntry(t, "At(0)", k, v, ok, of(0, 0), true)
	k, v, ok = a.Seek(-1)
	wantEntry(t, "Seek(-1)", k, v, ok, of(0, 0), true)
	d, was := a.Delete(0)
	if d.Len() != 0 || !was {
		t.Fatalf("Delete(0): %d entries, %v", d.Len(), was)
	}
}

// P5.2: Put of a key that is there puts the new entry in its place, and nothing else changes.
func TestPutAgain(t *testing.T) {
	a := rising(50)
	for k := 0; k < 100; k += 2 {
		b := a.Put(k, -1)
		wantNum(t, "Len", b.Len(), 50)
		wantNum(t, "Depth", b.Depth(), a.Depth())
		for l, v := range b.All() {
			if v != 10*l && (l != k || v != -1) || l == k && v != -1 {
				t.Fatalf("Put(%d): %d at %d", k, v, l)
			}
		}
	}
}

// P5.2: Put of a key that is not there, below the first, between two, above the last.
func TestPutNew(t *testing.T) {
	for k := -1; k < 101; k += 2 {
		b := rising(50).Put(k, 7)
		wantNum(t, "Len", b.Len(), 51)
		v, ok := b.Get(k)
		wantValue(t, "Get", v, ok, 7, true)
		wantNum(t, "Rank", b.Rank(k), (k+1)/2)
	}
}

// P5.2: the key that is put stands in the place of one that is equal, with all its bits.
func TestPutChangesTheKey(t *testing.T) {
	row := []float64{0, minusZero, 0, nan(3), nan(1 << 63), nan(5)}
	a := build(-7.0, 7.0, math.Inf(1), math.Inf(-1))
	for i, k := range row {
		a = a.Put(k, 100+i)
		place := a.Rank(k)
		l, v, ok := a.At(place)
		wantEntry(t, "At", l, v, ok, of(k, 100+i), true)
	}
	wantRows(t, "All", rows(a.All()), of(nan(5), 105), of(math.Inf(-1), 3), of(-7.0, 0), of(0.0, 102), of(7.0, 1), of(math.Inf(1), 2))
}

// P5.1, P5.2: a key that is equal is found and taken away, whatever its bits are.
func TestEqualReals(t *testing.T) {
	a := build(0, nan(1), 3)
	v, ok := a.Get(minusZero)
	wantValue(t, "Get(-0)", v, ok, 0, true)
	v, ok = a.Get(nan(9))
	wantValue(t, "Get(NaN)", v, ok, 1, true)
	d, was := a.Delete(minusZero)
	if !was {
		t.Fatal("Delete(-0): there was none")
	}
	wantRows(t, "Delete(-0)", rows(d.All()), of(nan(1), 1), of(3.0, 2))
	d, was = d.Delete(nan(1 << 63))
	if !was {
		t.Fatal("Delete(NaN): there was none")
	}
	wantRows(t, "Delete(NaN)", rows(d.All()), of(3.0, 2))
	if _, was = d.Delete(nan(1)); was {
		t.Fatal("Delete(NaN) again: there was one")
	}
}

// P5.1: NaN is below all others, the infinities are the outermost of these.
func TestOrderOfReals(t *testing.T) {
	a := build(math.Inf(1), 1, nan(0), -1, math.Inf(-1), 0)
	wantRows(t, "All", rows(a.All()), of(nan(0), 2), of(math.Inf(-1), 4), of(-1.0, 3), of(0.0, 5), of(1.0, 1), of(math.Inf(1), 0))
	for place, k := range []float64{nan(7), math.Inf(-1), -1, minusZero, 1, math.Inf(1)} {
		wantNum(t, "Rank", a.Rank(k), place)
	}
}

// P5.2: Delete of each key takes just that one; of a key that is not there none.
func TestDelete(t *testing.T) {
	a := rising(64)
	for k := -1; k < 130; k++ {
		there := k%2 == 0 && k >= 0 && k < 128
		d, was := a.Delete(k)
		if was != there {
			t.Fatalf("Delete(%d): %v", k, was)
		}
		if !there {
			wantRows(t, "Delete of none", rows(d.All()), rows(a.All())...)
			continue
		}
		wantRows(t, "Delete", rows(d.All()), append(rows(a.All())[:k/2], rows(a.From(k+1))...)...)
		if _, was = d.Delete(k); was {
			t.Fatalf("Delete(%d) again: there was one", k)
		}
	}
}

type name string

// P5.1: keys of a type of one's own, values of any type; what they point to is handed on, not copied.
func TestValuesAreHandedOn(t *testing.T) {
	list := make([]int, 2, 8)
	number := 5
	lists := tree.New[name, []int]().Put("list", list)
	numbers := tree.New[name, *int]().Put("number", &number)
	calls := tree.New[name, func() int]().Put("call", func() int { return 11 })
	got, ok := lists.Get("list")
	if !ok || &got[0] != &list[0] || len(got) != 2 || cap(got) != 8 {
		t.Fatalf("the list: %v, %v", got, ok)
	}
	if _, got, _ = lists.At(0); &got[0] != &list[0] {
		t.Fatal("At: another list")
	}
	for _, got = range lists.All() {
		if &got[0] != &list[0] {
			t.Fatal("All: another list")
		}
	}
	if p, ok := numbers.Get("number"); !ok || p != &number {
		t.Fatal("another pointer")
	}
	if call, ok := calls.Get("call"); !ok || call() != 11 {
		t.Fatal("another call")
	}
	if got, ok = lists.Get("none"); ok || got != nil {
		t.Fatalf("of none: %v, %v", got, ok)
	}
}

// P5.2, P5.4: a nil list is a value like any other.
func TestNilValues(t *testing.T) {
	a := tree.New[int, []byte]().Put(1, nil).Put(2, []byte{}).Put(3, nil)
	if v, ok := a.Get(1); v != nil || !ok {
		t.Fatalf("Get: %v, %v", v, ok)
	}
	low, high := a.Split(2)
	b, why := tree.Join(low, high)
	wantErr(t, "Join", why, api.OK)
	if v, ok := b.Get(2); v == nil || !ok {
		t.Fatalf("the empty list: %v, %v", v, ok)
	}
	wantNum(t, "Len", b.Len(), 3)
}
