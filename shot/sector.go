package shot

import (
	"haulage/api"
	"haulage/seal"
)

// sector is what one of the disk's holds: a head, or a part of a body.
type sector [api.SectorSize]byte

// Where the parts of a head stand behind its signs, and how it ends.
const (
	genAt    = 4
	lengthAt = 12
	dataAt   = 16 // the sum of the data
	zerosAt  = 20
	sumAt    = 59 // the sum of all so far
	endAt    = api.SectorSize - 1
	endMark  = 165
)

// headOf makes the head of a snapshot.
func headOf(gen int, data []byte) sector {
	s := sector{83, 72, 79, 84}
	layNumber(s[genAt:lengthAt], uint64(gen))
	layNumber(s[lengthAt:dataAt], uint64(len(data)))
	layNumber(s[dataAt:zerosAt], uint64(seal.CRC(data)))
	layNumber(s[sumAt:endAt], uint64(seal.CRC(s[:sumAt])))
	s[endAt] = endMark
	return s
}

// filled is a sector of a body: a piece of the data, 64 bytes at most, and zeros.
func filled(piece []byte) sector {
	var s sector
	copy(s[:], piece)
	return s
}

// generation is what a head says of it, whether it may be or not.
func (s sector) generation() uint64 { return numberIn(s[genAt:lengthAt]) }

// length is how many bytes of data a head says there are.
func (s sector) length() int { return int(numberIn(s[lengthAt:dataAt])) }

// layNumber writes a number into all of p, the highest byte first.
func layNumber(p []byte, n uint64) {
	for i := len(p) - 1; i >= 0; i-- {
		p[i] = byte(n)
		n >>= 8
	}
}

// numberIn is what layNumber has written into all of p.
func numberIn(p []byte) uint64 {
	n := uint64(0)
	for _, b := range p {
		n = n<<8 | uint64(b)
	}
	return n
}
