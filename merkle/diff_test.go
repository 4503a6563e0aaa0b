package merkle_test

import (
	"bytes"
	"fmt"
	"math/rand"
	"slices"
	"testing"

	"haulage/api"
	"haulage/merkle"
)

// line is what Diff is to say of a key with these rows; a nil one is none.
func line(bits int, ours, hers *api.Row) api.Line {
	var l api.Line
	if ours != nil {
		l.Key, l.Ours = ours.Key, toldRow(bits, *ours)
	}
	if hers != nil {
		l.Key, l.Hers = hers.Key, toldRow(bits, *hers)
	}
	return l
}

// P10.7: nil trees are refused, on either side, ahead of all else; then unlike bits.
func TestDiffRefused(t *testing.T) {
	a, b := fresh(t, 64, row("a", "1", 1)), fresh(t, 63, row("a", "1", 1))
	wantNoDiff(t, "nil, a", nil, a, api.ErrNil)
	wantNoDiff(t, "a, nil", a, nil, api.ErrNil)
	wantNoDiff(t, "nil, nil", nil, nil, api.ErrNil)
	wantNoDiff(t, "64, 63", a, b, api.ErrArg)
	wantNoDiff(t, "63, 64", b, a, api.ErrArg)
	wantNoDiff(t, "1, 2", fresh(t, 1), fresh(t, 2), api.ErrArg)
}

// P10.7: a tree and itself, or one of the same rows: the roots alone are held against each other.
func TestDiffOfTheSame(t *testing.T) {
	for _, bits := range someBits() {
		m := fresh(t, bits, manyRows(300)...)
		wantDiff(t, "itself", m, m, 1)
		wantDiff(t, "its like", m, fresh(t, bits, manyRows(300)...), 1)
		wantDiff(t, "none", fresh(t, bits), fresh(t, bits), 1)
	}
}

// P10.7: a row that one alone has, on either side, and a row of which the two have unlike ones, in each part: one line, and the pairs of one way.
func TestDiffOfOneRow(t *testing.T) {
	rows := manyRows(300)
	for i := 0; i < 300; i += 7 {
		less := slices.Delete(slices.Clone(rows), i, i+1)
		all, some := fresh(t, 64, rows...), fresh(t, 64, less...)
		wantDiff(t, "ours alone", all, some, 17, line(64, &rows[i], nil))
		wantDiff(t, "hers alone", some, all, 17, line(64, nil, &rows[i]))
		for _, r := range []api.Row{
			{Key: rows[i].Key, Value: []byte("other"), Rev: rows[i].Rev},
			{Key: rows[i].Key, Value: rows[i].Value, Rev: rows[i].Rev + 1},
			{Key: rows[i].Key},
		} {
			some.Put(r)
			wantDiff(t, "unlike", all, some, 17, line(64, &rows[i], &r))
			wantDiff(t, "unlike", some, all, 17, line(64, &r, &rows[i]))
		}
	}
}

// P10.7: rows of one bucket, key by key: those that are alike have no line, whatever stands ahead of them and behind them.
func TestDiffInABucket(t *testing.T) {
	rows := rowsIn(64, 7)
	changed := api.Row{Key: rows[4].Key, Value: []byte("x"), Rev: 1}
	a := fresh(t, 64, rows[0], rows[2], rows[3], rows[4])
	b := fresh(t, 64, rows[1], rows[3], changed, rows[5], rows[6])
	wantDiff(t, "a bucket", a, b, 17,
		line(64, &rows[0], nil), line(64, nil, &rows[1]), line(64, &rows[2], nil),
		line(64, &rows[4], &changed), line(64, nil, &rows[5]), line(64, nil, &rows[6]))
	wantDiff(t, "all of it", fresh(t, 64, rows...), fresh(t, 64), 17,
		line(64, &rows[0], nil), line(64, &rows[1], nil), line(64, &rows[2], nil), line(64, &rows[3], nil),
		line(64, &rows[4], nil), line(64, &rows[5], nil), line(64, &rows[6], nil))
}

// P10.7: the lines stand in the order of keys, not of buckets; an empty key has one like others.
func TestDiffInOrder(t *testing.T) {
	rows := append([]api.Row{row("", "", 0)}, manyRows(200)...)
	var wanted []api.Line
	for i := range rows {
		wanted = append(wanted, line(64, nil, &rows[i]))
	}
	lines, _, err := merkle.Diff(fresh(t, 64), fresh(t, 64, rows...))
	wantErr(t, "Diff", err, api.OK)
	wantLines(t, "all rows", lines, wanted)
}

// P10.7: how many pairs are held against each other: two buckets side by side share all but the last step, two at the ends but the first, all buckets take all nodes.
func TestDiffPairs(t *testing.T) {
	none := fresh(t, 64)
	one := func(buckets ...int) []api.Row {
		var rows []api.Row
		for _, b := range buckets {
			rows = append(rows, rowsIn(b, 1)...)
		}
		slices.SortFunc(rows, func(x, y api.Row) int { return bytes.Compare(x.Key, y.Key) })
		return rows
	}
	for _, c := range []struct {
		buckets []int
		pairs   int
	}{
		{[]int{0}, 17}, {[]int{255}, 17}, {[]int{100}, 17},
		{[]int{0, 1}, 17}, {[]int{254, 255}, 17}, {[]int{1, 2}, 19}, {[]int{0, 2}, 19}, {[]int{3, 4}, 21},
		{[]int{0, 128}, 31}, {[]int{0, 255}, 31}, {[]int{127, 128}, 31},
		{[]int{0, 64, 128, 192}, 1 + 2 + 4 + 4*2*6},
	} {
		rows := one(c.buckets...)
		var wanted []api.Line
		for i := range rows {
			wanted = append(wanted, line(64, &rows[i], nil))
		}
		wantDiff(t, fmt.Sprint("the buckets ", c.buckets), fresh(t, 64, rows...), none, c.pairs, wanted...)
	}
	all := make([]int, 256)
	for i := range all {
		all[i] = i
	}
	_, n, _ := merkle.Diff(fresh(t, 64, one(all...)...), none)
	wantNum(t, "pairs of all buckets", n, 511)
}

// twoOf are two trees of 3 bits: of these keys, with these revisions, and of one far from them, whose rows are unlike.
func twoOf(t *testing.T, keys []string, ours, hers []int) (a, b *merkle.Tree, far api.Line) {
	t.Helper()
	key := keysIn(200, 1)[0]
	x, y := row(key, "", 0), row(key, "", 1)
	a, b = fresh(t, 3, x), fresh(t, 3, y)
	for i, k := range keys {
		a.Put(row(k, "", ours[i]))
		b.Put(row(k, "", hers[i]))
	}
	return a, b, line(3, &x, &y)
}

// P10.7, P10.12: two unlike rows with one digest have no line, and what hangs on them is alike.
func TestDiffWithAClashOfRows(t *testing.T) {
	found := 0
	for rev := range 50 {
		x, y := row("a", "1", 0), row("a", "1", 1+rev)
		if toldRow(3, x) == toldRow(3, y) {
			wantDiff(t, "a clash", fresh(t, 3, x), fresh(t, 3, y), 1)
			wantDiff(t, "a clash, and one row more", fresh(t, 3, x), fresh(t, 3, y, row("b", "", 2)), 17, line(3, nil, &api.Row{Key: []byte("b"), Rev: 2}))
			found++
		}
	}
	if found == 0 {
		t.Fatal("no clash")
	}
}

// P10.7, P10.12: two buckets of unlike digests of rows with one digest: their rows have no lines, those of another bucket have.
func TestDiffWithAClashOfBuckets(t *testing.T) {
	keys := keysIn(140, 2)
	found := 0
	for i := range 64 {
		a, b, far := twoOf(t, keys, []int{0, 0}, []int{1 + i%8, 1 + i/8})
		if a.Digest(396) == b.Digest(396) && digestOfRevs(keys, 0, 0) != digestOfRevs(keys, 1+i%8, 1+i/8) {
			wantDiff(t, "a clash", a, b, 17, far)
			found++
		}
	}
	if found == 0 {
		t.Fatal("no clash")
	}
}

// digestOfRevs are the digests of two rows of these keys, with 3 bits.
func digestOfRevs(keys []string, one, other int) [2]uint64 {
	return [2]uint64{toldRow(3, row(keys[0], "", one)), toldRow(3, row(keys[1], "", other))}
}

// P10.7, P10.12: two nodes with one digest over unlike buckets: what is under them is not looked at, what is beside them is.
func TestDiffWithAClashOfNodes(t *testing.T) {
	keys := []string{keysIn(0, 1)[0], keysIn(1, 1)[0]}
	found := 0
	for i := range 64 {
		a, b, far := twoOf(t, keys, []int{0, 0}, []int{1 + i%8, 1 + i/8})
		if a.Digest(128) == b.Digest(128) && a.Digest(256) != b.Digest(256) && a.Digest(257) != b.Digest(257) {
			wantDiff(t, "a clash", a, b, 17, far)
			found++
		}
	}
	if found == 0 {
		t.Fatal("no clash")
	}
}

// P10.7: a line of a row whose digest is 0 stands there all the same: that it is alone counts, not its digest.
func TestDiffOfADigestOfZero(t *testing.T) {
	found := 0
	for rev := range 2000 {
		r := row("a", "1", rev)
		if toldRow(7, r) == 0 {
			a, b := fresh(t, 7, r), fresh(t, 7)
			wantDiff(t, "a digest of 0", a, b, 17, api.Line{Key: r.Key})
			wantDiff(t, "a digest of 0", b, a, 17, api.Line{Key: r.Key})
			found++
		}
	}
	if found == 0 {
		t.Fatal("no digest of 0")
	}
}

// P10.12: what Diff finds, of any two trees and with few bits and many.
func TestWhatDiffFinds(t *testing.T) {
	r := rand.New(rand.NewSource(1012))
	for round := range 1500 {
		bits := 1 + r.Intn(10)
		if r.Intn(4) == 0 {
			bits = 64
		}
		a, b := someTold(r, bits), someTold(r, bits)
		if r.Intn(2) == 0 {
			b = tell(bits, a.all()...)
			change(r, b)
		}
		x, y := fresh(t, bits, a.all()...), fresh(t, bits, b.all()...)
		lines, pairs, err := merkle.Diff(x, y)
		wantErr(t, "Diff", err, api.OK)
		wantFound(t, fmt.Sprintf("round %d, %d bits", round, bits), a, b, lines, pairs)
	}
}

// wantFound asks for each sentence of P10.12.
func wantFound(t *testing.T, what string, a, b told, lines []api.Line, pairs int) {
	t.Helper()
	has := map[string]bool{}
	for _, l := range lines {
		has[string(l.Key)] = true
		wantBool(t, fmt.Sprintf("%s: the rows of %q are unlike", what, l.Key), unlikeRows(a, b, string(l.Key)), true)
	}
	ours, hers := a.digests(), b.digests()
	if ours[1] != hers[1] && len(lines) == 0 {
		t.Fatalf("%s: unlike roots without a line", what)
	}
	for _, r := range append(a.all(), b.all()...) {
		key := string(r.Key)
		if unlikeRows(a, b, key) && !has[key] && !sameSomewhere(a, b, ours, hers, key) {
			t.Fatalf("%s: %q has no line", what, key)
		}
	}
	buckets := 0
	for n := 256; n < 512; n++ {
		if ours[n] != hers[n] {
			buckets++
		}
	}
	if pairs < 1 || pairs > 1+16*buckets {
		t.Fatalf("%s: %d pairs with %d buckets", what, pairs, buckets)
	}
}

func unlikeRows(a, b told, key string) bool {
	x, hasX := a.rows[key]
	y, hasY := b.rows[key]
	return hasX != hasY || hasX && !alike(x, y)
}

// sameSomewhere says whether two trees have one digest at a node of the key's way, or at its rows.
func sameSomewhere(a, b told, ours, hers [512]uint64, key string) bool {
	for n := 256 + toldBucket([]byte(key)); n > 0; n /= 2 {
		if ours[n] == hers[n] {
			return true
		}
	}
	x, hasX := a.rows[key]
	y, hasY := b.rows[key]
	return hasX && hasY && toldRow(a.bits, x) == toldRow(b.bits, y)
}
