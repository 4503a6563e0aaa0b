package wal

import (
	"haulage/api"
	"haulage/seal"
)

// sector is what one of the disk's holds.
type sector [api.SectorSize]byte

// The kinds of sectors of a log.
const (
	kindHead byte = 1 + iota
	kindPart
	kindLast
)

// A sector begins with its kind and its length; what it holds, its sum and the end mark stand behind them.
const (
	heldAt   = 2
	mostHeld = 57
	sumAt    = heldAt + mostHeld
	endAt    = api.SectorSize - 1
	endMark  = 165
)

// genSize is how many bytes a head holds.
const genSize = 8

// form makes a sector of a log. It holds mostHeld bytes at most.
func form(kind byte, held []byte) sector {
	var s sector
	s[0], s[1], s[endAt] = kind, byte(len(held)), endMark
	copy(s[heldAt:sumAt], held)
	layNumber(s[sumAt:endAt], uint64(seal.CRC(s[:sumAt])))
	return s
}

// formHead makes the head of a log.
func formHead(gen int) sector {
	var held [genSize]byte
	layNumber(held[:], uint64(gen))
	return form(kindHead, held[:])
}

// whole tells a sector of a log from zeros, and from what was torn.
func (s sector) whole() bool { return s[0] != 0 && s[endAt] == endMark }

// held are the bytes of a right sector; of another the reading is given up. A right one is just what its kind and its bytes make.
func (s sector) held() []byte {
	refuseIf(!s.whole() || s[1] > mostHeld)
	held := s[heldAt : heldAt+int(s[1])]
	refuseIf(s != form(s[0], held))
	return held
}

// generation is that of a head; of what is none the reading is given up.
func (s sector) generation() int {
	held := s.held()
	refuseIf(s[0] != kindHead || len(held) != genSize)
	gen := numberIn(held)
	refuseIf(gen < 1 || gen > api.MaxTime)
	return int(gen)
}

// piece are the bytes of a record's piece, one of it being read already or not; of what can't stand there the reading is given up.
func (s sector) piece(begun bool) []byte {
	held := s.held()
	switch s[0] {
	case kindPart:
		refuseIf(len(held) != mostHeld)
	case kindLast:
		refuseIf(begun && len(held) == 0)
	default:
		refuseIf(true)
	}
	return held
}

// layNumber writes a number into all of p, the highest byte first.
func layNumber(p []byte, n uint64) {
	for i := len(p) - 1; i >= 0; i-- {
		p[i] = byte(n)
		n >>= 8
	}
}

// numberIn is what layNumber has written into all of p.
func numberIn(p []byte) uint64 {
	n := uint64(0)
	for _, b := range p {
		n = n<<8 | uint64(b)
	}
	return n
}
