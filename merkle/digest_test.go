package merkle_test

import (
	"bytes"
	"fmt"
	"math"
	"testing"

	"haulage/api"
	"haulage/merkle"
)

// P10.2: a node from 1 to 511 has a digest, no other number has.
func TestDigestOfNodes(t *testing.T) {
	m := fresh(t, 64, manyRows(600)...)
	for _, node := range []int{math.MinInt, -512, -256, -255, -2, -1, 0, 512, 513, 767, 1024, 1<<32 + 1, math.MaxInt} {
		wantDigest(t, fmt.Sprintf("Digest(%d)", node), m.Digest(node), 0)
	}
	digests := tell(64, manyRows(600)...).digests()
	for _, node := range []int{1, 2, 3, 127, 128, 254, 255, 256, 257, 510, 511} {
		wantDigest(t, fmt.Sprintf("Digest(%d)", node), m.Digest(node), digests[node])
	}
	wantDigest(t, "Root", m.Root(), digests[1])
}

// P10.2: the digests of the empty tree, level by level, as the section "Words" has them.
func TestDigestsOfNothing(t *testing.T) {
	for _, bits := range someBits() {
		m := fresh(t, bits)
		d := toldOver(bits, 2)
		for first := 256; first >= 1; first /= 2 {
			for node := first; node < 2*first; node++ {
				wantDigest(t, fmt.Sprintf("%d bits: Digest(%d)", bits, node), m.Digest(node), d)
			}
			d = toldOver(bits, 3, d, d)
		}
	}
}

// P10.2: what a row's digest is made of: each part of it, and where one ends and the next begins.
func TestDigestOfARow(t *testing.T) {
	rows := []api.Row{
		row("", "", 0), row("", "", 1), row("", "", -1), row("", "", 2), row("", "", -2),
		row("", "", 63), row("", "", 64), row("", "", -64), row("", "", -65), row("", "", 1<<40),
		row("", "", math.MaxInt), row("", "", math.MinInt), row("", "a", 0), row("", "\x00", 0), row("", "\x00\x00", 0),
		row("a", "", 0), row("a", "a", 0), row("aa", "", 0), row("", "aa", 0), row("a", "b", 0), row("b", "a", 0),
		{Key: bytes.Repeat([]byte("k"), 64), Value: bytes.Repeat([]byte("v"), 256), Rev: 7},
		{Key: bytes.Repeat([]byte("k"), 127)}, {Key: bytes.Repeat([]byte("k"), 128)},
		{Value: bytes.Repeat([]byte("v"), 127)}, {Value: bytes.Repeat([]byte("v"), 128)},
		{Key: bytes.Repeat([]byte("k"), 20000), Value: bytes.Repeat([]byte("v"), 70000), Rev: -1},
	}
	seen := map[uint64]int{}
	for i, r := range rows {
		for _, bits := range someBits() {
			wantTree(t, fmt.Sprintf("row %d, %d bits", i, bits), fresh(t, bits, r), bits, r)
		}
		d := fresh(t, 64, r).Root()
		if was, ok := seen[d]; ok {
			t.Fatalf("the rows %d and %d have one digest", was, i)
		}
		seen[d] = i
	}
}

// P10.2: several rows in one bucket: their digests stand in the order of keys, and all of them count.
func TestDigestOfABucket(t *testing.T) {
	for _, bucket := range []int{0, 1, 127, 128, 254, 255} {
		rows := rowsIn(bucket, 12)
		for n := range rows {
			for _, bits := range []int{5, 64} {
				m := fresh(t, bits, rows[:n]...)
				wantTree(t, fmt.Sprintf("%d rows in bucket %d", n, bucket), m, bits, rows[:n]...)
				wantDigest(t, "its node", m.Digest(256+bucket), toldRows(bits, rows[:n]))
			}
		}
	}
}

// P10.2: a digest has no more bits than the tree: those beyond are cut off at each row and each node, ahead of what is made of it.
func TestDigestsAreCut(t *testing.T) {
	rows := manyRows(300)
	for bits := 1; bits <= 64; bits++ {
		m := fresh(t, bits, rows...)
		wantTree(t, fmt.Sprint(bits, " bits"), m, bits, rows...)
		most := uint64(0)
		for node := range 512 {
			most |= m.Digest(node)
		}
		if most != math.MaxUint64>>(64-bits) {
			t.Fatalf("%d bits: the digests together have %X", bits, most)
		}
	}
}

// P10.2: Len counts the rows, whatever bucket they are in.
func TestLen(t *testing.T) {
	for _, n := range []int{0, 1, 2, 255, 256, 257, 5000} {
		wantNum(t, "Len", fresh(t, 64, manyRows(n)...).Len(), n)
	}
	wantNum(t, "Len of one bucket's", fresh(t, 1, rowsIn(255, 40)...).Len(), 40)
	wantNum(t, "Len of an empty row", fresh(t, 64, api.Row{}).Len(), 1)
}

// P10.2, P0.3: asking changes nothing.
func TestAskingChangesNothing(t *testing.T) {
	rows := manyRows(40)
	m := fresh(t, 64, rows...)
	for range 2 {
		m.Len()
		m.Root()
		m.Digest(300)
		m.Digest(-1)
		m.Get(rows[3].Key)
		m.Get([]byte("none"))
		m.Rows()
		merkle.Check(m.Root(), 64, rows[3].Key, m.Prove(rows[3].Key))
		m.Prove([]byte("none"))
		merkle.Diff(m, fresh(t, 64))
		merkle.Diff(fresh(t, 64), m)
		wantTree(t, "asked", m, 64, rows...)
	}
}
