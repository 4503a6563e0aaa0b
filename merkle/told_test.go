package merkle_test

import (
	"encoding/binary"
	"hash/fnv"
	"maps"
	"slices"

	"haulage/api"
	"haulage/merkle"
)

// told is a second telling of the chapter: its rows are a map, and each digest is made anew out of them whenever it is asked for, with the library's own forms.
type told struct {
	bits int
	rows map[string]api.Row
}

func tell(bits int, rows ...api.Row) told {
	m := told{bits, map[string]api.Row{}}
	for _, r := range rows {
		m.rows[string(r.Key)] = r
	}
	return m
}

// toldDigest is the digest of a text: what is beyond its bits is taken off one by one, from above.
func toldDigest(bits int, text []byte) uint64 {
	h := fnv.New64a()
	h.Write(text)
	mark := h.Sum64()
	for i := 63; i >= bits; i-- {
		if mark>>i == 1 {
			mark -= 1 << i
		}
	}
	return mark
}

func toldBucket(key []byte) int { return int(toldDigest(8, key)) }

func toldRow(bits int, r api.Row) uint64 {
	text := []byte{1}
	text = append(binary.AppendUvarint(text, uint64(len(r.Key))), r.Key...)
	text = append(binary.AppendUvarint(text, uint64(len(r.Value))), r.Value...)
	return toldDigest(bits, binary.AppendVarint(text, int64(r.Rev)))
}

func toldOver(bits int, kind byte, digests ...uint64) uint64 {
	text := []byte{kind}
	for _, d := range digests {
		text = binary.LittleEndian.AppendUint64(text, d)
	}
	return toldDigest(bits, text)
}

// toldRows is the digest of a bucket of these rows.
func toldRows(bits int, rows []api.Row) uint64 {
	var digests []uint64
	for _, r := range rows {
		digests = append(digests, toldRow(bits, r))
	}
	return toldOver(bits, 2, digests...)
}

// all are the rows in the order of keys.
func (m told) all() []api.Row {
	var rows []api.Row
	for _, key := range slices.Sorted(maps.Keys(m.rows)) {
		rows = append(rows, m.rows[key])
	}
	return rows
}

// in are the rows of a bucket.
func (m told) in(bucket int) []api.Row {
	var rows []api.Row
	for _, r := range m.all() {
		if toldBucket(r.Key) == bucket {
			rows = append(rows, r)
		}
	}
	return rows
}

// digests are those of all nodes, by their numbers.
func (m told) digests() [512]uint64 {
	var all [512]uint64
	var buckets [256][]api.Row
	for _, r := range m.all() {
		b := toldBucket(r.Key)
		buckets[b] = append(buckets[b], r)
	}
	for b, rows := range buckets {
		all[256+b] = toldRows(m.bits, rows)
	}
	for n := 255; n > 0; n-- {
		all[n] = toldOver(m.bits, 3, all[2*n], all[2*n+1])
	}
	return all
}

func (m told) prove(key []byte) merkle.Proof {
	p := merkle.Proof{Rows: m.in(toldBucket(key))}
	all := m.digests()
	node := 256 + toldBucket(key)
	for i := range p.Path {
		if node%2 == 0 {
			p.Path[i] = all[node+1]
		} else {
			p.Path[i] = all[node-1]
		}
		node = node / 2
	}
	return p
}

// toldWay are the digests of a key's way, from the bucket to the root, as a proof has them.
func toldWay(bits int, key []byte, p merkle.Proof) [9]uint64 {
	var way [9]uint64
	way[0] = toldRows(bits, p.Rows)
	for i, beside := range p.Path {
		if (256+toldBucket(key))>>i%2 == 0 {
			way[i+1] = toldOver(bits, 3, way[i], beside)
		} else {
			way[i+1] = toldOver(bits, 3, beside, way[i])
		}
	}
	return way
}

func toldCheck(root uint64, bits int, key []byte, p merkle.Proof) (api.Row, bool, api.Errno) {
	if bits < 1 || bits > 64 {
		return api.Row{}, false, api.ErrArg
	}
	var row api.Row
	found := false
	for i, r := range p.Rows {
		if toldBucket(r.Key) != toldBucket(key) || i > 0 && string(p.Rows[i-1].Key) >= string(r.Key) {
			return api.Row{}, false, api.ErrMerkProof
		}
		if string(r.Key) == string(key) {
			row, found = r, true
		}
	}
	if toldWay(bits, key, p)[8] != root {
		return api.Row{}, false, api.ErrMerkProof
	}
	return row, found, api.OK
}

// toldDiff goes down level by level.
func toldDiff(a, b told) ([]api.Line, int) {
	ours, hers := a.digests(), b.digests()
	pairs := 0
	down := map[int]bool{}
	for level := []int{1}; len(level) > 0; {
		var next []int
		for _, n := range level {
			pairs++
			switch {
			case ours[n] == hers[n]:
			case n < 256:
				next = append(next, 2*n, 2*n+1)
			default:
				down[n-256] = true
			}
		}
		level = next
	}
	keys := map[string]bool{}
	for key := range a.rows {
		keys[key] = true
	}
	for key := range b.rows {
		keys[key] = true
	}
	var lines []api.Line
	for _, key := range slices.Sorted(maps.Keys(keys)) {
		x, hasX := a.rows[key]
		y, hasY := b.rows[key]
		line := api.Line{Key: []byte(key)}
		if hasX {
			line.Ours = toldRow(a.bits, x)
		}
		if hasY {
			line.Hers = toldRow(b.bits, y)
		}
		if down[toldBucket(line.Key)] && (hasX != hasY || line.Ours != line.Hers) {
			lines = append(lines, line)
		}
	}
	return lines, pairs
}
