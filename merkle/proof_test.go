package merkle_test

import (
	"fmt"
	"math"
	"slices"
	"testing"

	"haulage/api"
	"haulage/merkle"
)

// P10.5: the rows of the key's bucket alone, and the digests beside its way, from below upwards; of buckets at both ends of the tree and in its middle.
func TestProve(t *testing.T) {
	rows := manyRows(700)
	for _, bits := range []int{6, 64} {
		m, model := fresh(t, bits, rows...), tell(bits, rows...)
		for b := range 256 {
			key := []byte(keysIn(b, 1)[0])
			p := m.Prove(key)
			wantProof(t, fmt.Sprintf("%d bits: Prove(%q), bucket %d", bits, key, b), p, model.prove(key))
			if b%2 == 0 {
				wantDigest(t, "beside the bucket", p.Path[0], m.Digest(256+b+1))
			} else {
				wantDigest(t, "beside the bucket", p.Path[0], m.Digest(256+b-1))
			}
			wantDigest(t, "the last of the path", p.Path[7], m.Digest(3-b/128))
		}
	}
}

// P10.5: a bucket of several rows is shown whole and in the order of keys, whether the key is among them or not; an empty one has no rows, but a path.
func TestProveABucket(t *testing.T) {
	rows := rowsIn(90, 6)
	m := fresh(t, 64)
	for _, i := range []int{3, 0, 5, 1} {
		m.Put(rows[i])
	}
	left := []api.Row{rows[0], rows[1], rows[3], rows[5]}
	for _, r := range rows {
		wantProof(t, "Prove", m.Prove(r.Key), tell(64, left...).prove(r.Key))
		wantRows(t, "Prove", m.Prove(r.Key).Rows, left)
	}
	other := m.Prove([]byte(keysIn(91, 1)[0]))
	wantNum(t, "rows of an empty bucket", len(other.Rows), 0)
	wantDigest(t, "beside the empty bucket", other.Path[0], m.Digest(256+90))
	wantProof(t, "an empty tree", fresh(t, 64).Prove(nil), tell(64).prove(nil))
}

// P10.10: Check of the Root and of a key's proof answers what Get answers, with all bits.
func TestProved(t *testing.T) {
	rows := append(manyRows(120), row("z", "", 0))
	rows = append([]api.Row{row("", "empty", -7)}, rows...)
	for bits := 1; bits <= 64; bits++ {
		m := fresh(t, bits, rows...)
		for _, r := range rows {
			wantShown(t, fmt.Sprintf("%d bits", bits), m.Root(), bits, m.Prove(r.Key), r)
		}
		for i := range 120 {
			key := fmt.Sprint("none", i)
			wantShownNone(t, fmt.Sprintf("%d bits: %q", bits, key), m.Root(), bits, key, m.Prove([]byte(key)))
		}
	}
}

// P10.10: so it is in a bucket of several, of each of its rows and of keys ahead of, between and behind them, and in a tree without rows.
func TestProvedInABucket(t *testing.T) {
	all := rowsIn(255, 9)
	rows := []api.Row{all[1], all[3], all[4], all[7]}
	m := fresh(t, 64, rows...)
	for i, r := range all {
		if slices.Contains([]int{1, 3, 4, 7}, i) {
			wantShown(t, "several", m.Root(), 64, m.Prove(r.Key), r)
		} else {
			wantShownNone(t, "several", m.Root(), 64, string(r.Key), m.Prove(r.Key))
		}
	}
	empty := fresh(t, 64)
	wantShownNone(t, "no rows", empty.Root(), 64, "", empty.Prove(nil))
	wantShownNone(t, "no rows", empty.Root(), 64, "a", empty.Prove([]byte("a")))
}

// P10.6: the proof of one key is one of all keys of its bucket, for it has the same rows and path.
func TestOneProofOfABucket(t *testing.T) {
	rows := rowsIn(18, 5)
	m := fresh(t, 64, rows[:4]...)
	p := m.Prove(rows[0].Key)
	for _, r := range rows[:4] {
		wantShown(t, "of the bucket", m.Root(), 64, p, r)
	}
	wantShownNone(t, "of the bucket", m.Root(), 64, string(rows[4].Key), p)
}

// P10.6: wrong bits are refused, ahead of all that is wrong with the proof.
func TestCheckWrongBits(t *testing.T) {
	m := fresh(t, 64, row("a", "1", 1))
	p := m.Prove([]byte("a"))
	worse := merkle.Proof{Rows: []api.Row{row("b", "", 1), row("a", "", 1)}}
	for _, bits := range wrongBits() {
		wantRefused(t, fmt.Sprint(bits, " bits"), m.Root(), bits, "a", p, api.ErrArg)
		wantRefused(t, fmt.Sprint(bits, " bits"), 0, bits, "a", worse, api.ErrArg)
		wantRefused(t, fmt.Sprint(bits, " bits"), 0, bits, "", merkle.Proof{}, api.ErrArg)
	}
}

// P10.6: other bits than the tree's lead to another root.
func TestCheckOtherBits(t *testing.T) {
	m := fresh(t, 64, row("a", "1", 1))
	for bits := 1; bits < 64; bits++ {
		wantRefused(t, fmt.Sprint(bits, " bits"), m.Root(), bits, "a", m.Prove([]byte("a")), api.ErrMerkProof)
	}
	m = fresh(t, 40, row("a", "1", 1))
	for bits := 1; bits <= 64; bits++ {
		if bits != 40 {
			wantRefused(t, fmt.Sprint(bits, " bits"), m.Root(), bits, "a", m.Prove([]byte("a")), api.ErrMerkProof)
		}
	}
}

// P10.6: another root is refused, be it in the bits beyond the tree's alone.
func TestCheckOtherRoot(t *testing.T) {
	for _, bits := range []int{1, 8, 33, 64} {
		m := fresh(t, bits, row("a", "1", 1))
		p := m.Prove([]byte("a"))
		for i := range 64 {
			wantRefused(t, fmt.Sprintf("%d bits, bit %d turned", bits, i), m.Root()^1<<i, bits, "a", p, api.ErrMerkProof)
		}
	}
	wantRefused(t, "0", 0, 64, "a", fresh(t, 64).Prove([]byte("a")), api.ErrMerkProof)
}

// P10.6: a path that is turned at any place and bit, or whose digests are turned about, does not lead to the root.
func TestCheckTurnedPath(t *testing.T) {
	m := fresh(t, 64, manyRows(300)...)
	key := "key00150"
	p := m.Prove([]byte(key))
	for i := range p.Path {
		for bit := range 64 {
			q := p
			q.Path[i] ^= 1 << bit
			wantRefused(t, fmt.Sprintf("bit %d of %d", bit, i), m.Root(), 64, key, q, api.ErrMerkProof)
		}
		for j := range i {
			q := p
			q.Path[i], q.Path[j] = q.Path[j], q.Path[i]
			wantRefused(t, fmt.Sprintf("%d and %d", i, j), m.Root(), 64, key, q, api.ErrMerkProof)
		}
	}
}

// P10.6: rows that are others than the bucket's do not lead to the root: one more, one less, or one of whose parts is another.
func TestCheckOtherRows(t *testing.T) {
	rows := rowsIn(44, 4)
	m := fresh(t, 64, rows[:3]...)
	p := m.Prove(rows[0].Key)
	key := string(rows[1].Key)
	for i := range 3 {
		q := p
		q.Rows = slices.Delete(slices.Clone(p.Rows), i, i+1)
		wantRefused(t, fmt.Sprint("without ", i), m.Root(), 64, key, q, api.ErrMerkProof)
		for _, r := range []api.Row{
			{Key: rows[i].Key, Value: []byte("w"), Rev: rows[i].Rev},
			{Key: rows[i].Key, Value: rows[i].Value, Rev: rows[i].Rev + 1},
			{Key: rows[i].Key, Value: rows[i].Value, Rev: -rows[i].Rev},
		} {
			q.Rows = slices.Clone(p.Rows)
			q.Rows[i] = r
			wantRefused(t, fmt.Sprint("another for ", i), m.Root(), 64, key, q, api.ErrMerkProof)
		}
	}
	q := p
	q.Rows = rows
	wantRefused(t, "one more", m.Root(), 64, key, q, api.ErrMerkProof)
	wantRefused(t, "no proof", m.Root(), 64, key, merkle.Proof{}, api.ErrMerkProof)
}

// forged is the root to which such a proof leads, whatever is wrong with its rows.
func forged(bits int, key string, p merkle.Proof) uint64 { return toldWay(bits, []byte(key), p)[8] }

// P10.6: rows of another bucket, rows out of order and rows twice are refused, though the digests lead to the root.
func TestCheckRowsThatMayNotBe(t *testing.T) {
	rows := rowsIn(12, 4)
	key := string(rows[1].Key)
	path := [8]uint64{1, 2, 3, 4, 5, 6, 7, 8}
	stray := row(keysIn(13, 1)[0], "", 1)
	ahead := row("", "", 1)
	for _, c := range []struct {
		what string
		rows []api.Row
	}{
		{"one of another bucket", []api.Row{stray}},
		{"one of another bucket ahead", []api.Row{ahead, rows[1]}},
		{"one of another bucket behind", []api.Row{rows[1], row("zz", "", 1)}},
		{"two turned about", []api.Row{rows[1], rows[0]}},
		{"two turned about behind others", []api.Row{rows[0], rows[1], rows[3], rows[2]}},
		{"one twice", []api.Row{rows[1], rows[1]}},
		{"one key twice", []api.Row{rows[1], row(key, "other", 9)}},
		{"one key twice behind others", []api.Row{rows[0], rows[1], rows[2], rows[2]}},
	} {
		p := merkle.Proof{Rows: c.rows, Path: path}
		for _, bits := range []int{1, 8, 64} {
			wantRefused(t, c.what, forged(bits, key, p), bits, key, p, api.ErrMerkProof)
		}
	}
	wantRefused(t, "all of another bucket", forged(64, "a", merkle.Proof{Rows: rows}), 64, "a", merkle.Proof{Rows: rows}, api.ErrMerkProof)
	twice := merkle.Proof{Rows: []api.Row{{}, {}}}
	wantRefused(t, "the empty key twice", forged(64, "", twice), 64, "", twice, api.ErrMerkProof)
}

// P10.6: what leads to the root is right, though no tree ever had it: digests of any bits beside the way.
func TestCheckWithoutATree(t *testing.T) {
	rows := rowsIn(240, 3)
	path := [8]uint64{math.MaxUint64, 0, 1 << 63, 256, 5, 1 << 32, 255, 1}
	for _, bits := range someBits() {
		p := merkle.Proof{Rows: rows, Path: path}
		for _, r := range rows {
			wantShown(t, fmt.Sprint(bits, " bits"), forged(bits, string(r.Key), p), bits, p, r)
		}
		p = merkle.Proof{Path: path}
		wantShownNone(t, fmt.Sprint(bits, " bits"), forged(bits, "a", p), bits, "a", p)
		wantShownNone(t, fmt.Sprint(bits, " bits"), forged(bits, "", p), bits, "", p)
	}
}

// P10.6: a digest beside the way counts with all its 64 bits, also where the tree has fewer.
func TestCheckCountsAllBitsOfAPath(t *testing.T) {
	p := merkle.Proof{Path: [8]uint64{1, 2, 3, 4, 5, 6, 7, 8}}
	root := forged(32, "a", p)
	for i := range p.Path {
		q := p
		q.Path[i] |= 1 << 60
		if forged(32, "a", q) == root {
			t.Fatal("a clash: take another path")
		}
		wantRefused(t, fmt.Sprint("a bit more at ", i), root, 32, "a", q, api.ErrMerkProof)
	}
}

// P10.6, P10.11: where digests clash, a wrong row is shown: here one that has the digest of the tree's own.
func TestCheckWithAClashOfRows(t *testing.T) {
	m := fresh(t, 3, row("a", "1", 1))
	p := m.Prove([]byte("a"))
	shown := 0
	for rev := 2; rev < 100; rev++ {
		q := p
		q.Rows = []api.Row{row("a", "1", rev)}
		if toldRow(3, q.Rows[0]) == toldRow(3, p.Rows[0]) {
			wantShown(t, "a clash", m.Root(), 3, q, q.Rows[0])
			shown++
		}
	}
	if shown == 0 {
		t.Fatal("no clash among 98 rows of 3 bits")
	}
}

// P10.6, P10.11: and here a row is denied, since a bucket without rows has the digest of the tree's own.
func TestCheckWithAClashOfBuckets(t *testing.T) {
	denied := 0
	for rev := range 100 {
		m := fresh(t, 3, row("a", "1", rev))
		q := m.Prove([]byte("a"))
		q.Rows = nil
		if m.Digest(396) == toldOver(3, 2) {
			wantShownNone(t, "a clash", m.Root(), 3, "a", q)
			denied++
		}
	}
	if denied == 0 {
		t.Fatal("no clash among 100 buckets of 3 bits")
	}
}
