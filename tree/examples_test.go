package tree_test

import (
	"testing"

	"haulage/api"
	"haulage/tree"
)

// three is the tree t of the chapter's examples.
func three() *tree.Tree[int, int] { return tree.New[int, int]().Put(5, 50).Put(3, 30).Put(9, 90) }

// P5.1, P5.3: the first two rows of "Examples".
func TestExamplesOfAsking(t *testing.T) {
	a := three()
	wantNum(t, "Len", a.Len(), 3)
	v, ok := a.Get(3)
	wantValue(t, "Get(3)", v, ok, 30, true)
	v, ok = a.Get(4)
	wantValue(t, "Get(4)", v, ok, 0, false)
	wantNum(t, "Rank(5)", a.Rank(5), 1)
	wantNum(t, "Rank(6)", a.Rank(6), 2)
	k, v, ok := a.At(2)
	wantEntry(t, "At(2)", k, v, ok, of(9, 90), true)
	k, v, ok = a.At(3)
	wantEntry(t, "At(3)", k, v, ok, of(0, 0), false)
	k, v, ok = a.Seek(4)
	wantEntry(t, "Seek(4)", k, v, ok, of(5, 50), true)
	k, v, ok = a.Seek(9)
	wantEntry(t, "Seek(9)", k, v, ok, of(9, 90), true)
	k, v, ok = a.Seek(10)
	wantEntry(t, "Seek(10)", k, v, ok, of(0, 0), false)
}

// P5.2, P5.6: the rows of "Examples" with Put and Delete.
func TestExamplesOfChanging(t *testing.T) {
	a := three()
	u := a.Put(5, 55)
	v, ok := u.Get(5)
	wantValue(t, "u.Get(5)", v, ok, 55, true)
	v, ok = a.Get(5)
	wantValue(t, "t.Get(5)", v, ok, 50, true)
	d, was := u.Delete(3)
	if d.Len() != 2 || !was {
		t.Fatalf("u.Delete(3): %d entries, %v", d.Len(), was)
	}
	d, was = u.Delete(4)
	if d.Len() != 3 || was {
		t.Fatalf("u.Delete(4): %d entries, %v", d.Len(), was)
	}
}

// P5.4, P5.5: the rows of "Examples" with Split, Join and Down.
func TestExamplesOfParts(t *testing.T) {
	whole := three()
	a, b := whole.Split(5)
	wantNum(t, "a.Len", a.Len(), 1)
	wantNum(t, "b.Len", b.Len(), 2)
	j, why := tree.Join(a, b)
	wantErr(t, "Join(a, b)", why, api.OK)
	wantRows(t, "Join(a, b)", rows(j.All()), of(3, 30), of(5, 50), of(9, 90))
	j, why = tree.Join(b, a)
	wantErr(t, "Join(b, a)", why, api.ErrArg)
	if j != nil {
		t.Fatal("Join(b, a): a tree beside the error")
	}
	j, why = tree.Join(nil, b)
	wantErr(t, "Join(nil, b)", why, api.OK)
	wantRows(t, "Join(nil, b)", rows(j.All()), of(5, 50), of(9, 90))
	wantRows(t, "Down", rows(whole.Down()), of(9, 90), of(5, 50), of(3, 30))
}

// P5.2: the row of "Examples" with keys that are reals.
func TestExamplesOfReals(t *testing.T) {
	a := tree.New[float64, int]().Put(0, 1).Put(minusZero, 2).Put(nan(1), 3).Put(nan(2), 4)
	wantNum(t, "Len", a.Len(), 2)
	wantRows(t, "All", rows(a.All()), of(nan(2), 4), of(minusZero, 2))
}
