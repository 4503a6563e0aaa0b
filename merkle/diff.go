package merkle

import (
	"bytes"
	"slices"

	"haulage/api"
)

// comparison is what has been found of two trees so far.
type comparison struct {
	a, b  *Tree
	pairs int
	lines []api.Line
}

// Diff: P10.7.
func Diff(a, b *Tree) ([]api.Line, int, api.Errno) {
	if a == nil || b == nil {
		return nil, 0, api.ErrNil
	}
	if a.bits != b.bits {
		return nil, 0, api.ErrArg
	}
	if a.digests == b.digests { // then the roots are alike, and that pair is the only one
		return nil, 1, api.OK
	}
	c := comparison{a: a, b: b}
	c.hold(rootNode)
	slices.SortFunc(c.lines, func(x, y api.Line) int { return bytes.Compare(x.Key, y.Key) })
	return c.lines, c.pairs, api.OK
}

// hold holds the digests of a node against each other, and goes down where they are unlike.
func (c *comparison) hold(node int) {
	c.pairs++
	if c.a.digests[node] == c.b.digests[node] {
		return
	}
	if node >= firstBucket {
		number := node - firstBucket
		c.lines = append(c.lines, unlike(c.a.buckets[number], c.b.buckets[number])...)
		return
	}
	c.hold(2 * node)
	c.hold(2*node + 1)
}

// unlike are the lines of two buckets, key by key.
func unlike(ours, hers bucket) []api.Line {
	var lines []api.Line
	for len(ours) > 0 || len(hers) > 0 {
		var line api.Line
		order := firstKeys(ours, hers)
		if order <= 0 {
			line.Key, line.Ours = ours[0].row.Key, ours[0].digest
			ours = ours[1:]
		}
		if order >= 0 {
			line.Key, line.Hers = hers[0].row.Key, hers[0].digest
			hers = hers[1:]
		}
		if order != 0 || line.Ours != line.Hers {
			line.Key = bytes.Clone(line.Key)
			lines = append(lines, line)
		}
	}
	return lines
}

// firstKeys compares the first keys of two buckets, not both of which are empty; a bucket's end is behind all keys.
func firstKeys(ours, hers bucket) int {
	if len(ours) == 0 {
		return 1
	}
	if len(hers) == 0 {
		return -1
	}
	return bytes.Compare(ours[0].row.Key, hers[0].row.Key)
}
