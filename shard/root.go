package shard

import (
	"haulage/api"
	"haulage/merkle"
	"haulage/parcel"
	"haulage/seal"
)

// digestBits are those of the tree over the rows: as many as a digest can have.
const digestBits = 64

// Root: P14.5.
func (s *Shard) Root() uint64 {
	if s == nil {
		return 0
	}
	tree, _ := merkle.New(s.Rows(), digestBits) // a table's rows are in order, and so many bits may be
	w := parcel.New(api.MaxCopy)
	w.Fixed(tree.Root(), 8)
	w.Num(uint64(s.Rev()))
	s.laySeats(w)
	p, _ := w.Done()
	return seal.FNV(p)
}
