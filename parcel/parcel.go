// Package parcel is layer 1: numbers, real numbers and texts as bytes, and back; frames within frames. See shared/doc/01-parcel.md.
package parcel

import (
	"math"
	"math/bits"
)

// oneNaN stands for the bits of every NaN, so that what is one number to a reader is one row of bytes.
const oneNaN = 0x7FF8000000000000

// unsigned are the kinds that are laid down and taken up byte by byte, the lowest first.
type unsigned interface {
	uint8 | uint16 | uint32 | uint64
}

// widthOf counts the bytes of a kind by its greatest number.
func widthOf[N unsigned]() int {
	return bits.Len64(uint64(^N(0))) / 8
}

// layNumber answers p with the bytes of n behind it, the lowest first.
func layNumber[N unsigned](p []byte, n N) []byte {
	for i := range widthOf[N]() {
		p = append(p, byte(n>>(8*i)))
	}
	return p
}

// takeNumber is layNumber's way back.
func takeNumber[N unsigned](r *Reader) N {
	var n N
	for i := range widthOf[N]() {
		n |= N(r.next()) << (8 * i)
	}
	return n
}

// layFixed needs no kind of three, five, six or seven bytes: these sizes are sums of the other ones.
func layFixed(n uint64, size int) []byte {
	var p []byte
	if size == 8 {
		return layNumber(p, n)
	}
	if size&4 != 0 {
		p = layNumber(p, uint32(n))
		n >>= 32
	}
	if size&2 != 0 {
		p = layNumber(p, uint16(n))
		n >>= 16
	}
	if size&1 != 0 {
		p = layNumber(p, uint8(n))
	}
	return p
}

// takeFixed is layFixed's way back.
func takeFixed(r *Reader, size int) uint64 {
	if size == 8 {
		return takeNumber[uint64](r)
	}
	n, shift := uint64(0), 0
	if size&4 != 0 {
		n = uint64(takeNumber[uint32](r))
		shift = 32
	}
	if size&2 != 0 {
		n |= uint64(takeNumber[uint16](r)) << shift
		shift += 16
	}
	if size&1 != 0 {
		n |= uint64(takeNumber[uint8](r)) << shift
	}
	return n
}

// formOf answers the form of n; of 0 too it has a byte, by which its end is known.
func formOf(n uint64) []byte {
	var p []byte
	for n >= 128 {
		p = append(p, byte(n)|128)
		n >>= 7
	}
	return append(p, byte(n))
}

// foldOf writes -2i - 1 as twice the complement and one, which does not run over at the lowest int.
func foldOf(i int) uint64 {
	if i < 0 {
		return 2*uint64(^i) + 1
	}
	return 2 * uint64(i)
}

// unfold is foldOf's way back.
func unfold(n uint64) int {
	half := int(n / 2)
	if n%2 == 1 {
		return ^half
	}
	return half
}

// bytesOfReal answers the bytes of x's bits, the highest first.
func bytesOfReal(x float64) [8]byte {
	n := math.Float64bits(x)
	if math.IsNaN(x) {
		n = oneNaN
	}
	var p [8]byte
	for i := range p {
		p[i] = byte(n >> (56 - 8*i))
	}
	return p
}

// bitsOfReal is bytesOfReal's way back as far as the bits, of which not all are a number's here.
func bitsOfReal(p [8]byte) uint64 {
	n := uint64(0)
	for _, b := range p {
		n = n<<8 | uint64(b)
	}
	return n
}
