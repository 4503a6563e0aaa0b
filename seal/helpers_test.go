package seal_test

import (
	"bytes"
	"math/rand"
	"testing"
)

// want compares one answer.
func want[T int | uint32 | uint64 | [4]byte](t *testing.T, what string, got, wanted T) {
	t.Helper()
	if got != wanted {
		t.Fatalf("%s: %X, want %X", what, got, wanted)
	}
}

// someBytes are n bytes of any kind.
func someBytes(d *rand.Rand, n int) []byte {
	p := make([]byte, n)
	d.Read(p)
	return p
}

// texts are bytes of many lengths, among them none, nil, one byte of each kind, and rows of one byte.
func texts() [][]byte {
	d := rand.New(rand.NewSource(1))
	all := [][]byte{nil, {}}
	for b := range 256 {
		all = append(all, []byte{byte(b)})
	}
	for n := range 300 {
		all = append(all, someBytes(d, n))
	}
	for _, n := range []int{2, 3, 4, 5, 8, 64, 1000} {
		all = append(all, make([]byte, n), bytes.Repeat([]byte{255}, n), bytes.Repeat([]byte{128}, n))
	}
	return append(all, someBytes(d, 65536), someBytes(d, 100001))
}

// modelStep is a step, as the chapter tells it.
func modelStep(r uint32) uint32 {
	if r%2 == 0 {
		return r / 2
	}
	return r/2 ^ 0x82F63B78
}

// modelSteps are n steps, one behind the other.
func modelSteps(r uint32, n int) uint32 {
	for range n {
		r = modelStep(r)
	}
	return r
}

// modelCRC is the sum, as the chapter tells it.
func modelCRC(p []byte) uint32 {
	r := uint32(0xFFFFFFFF)
	for _, b := range p {
		r = modelSteps(r^uint32(b), 8)
	}
	return r ^ 0xFFFFFFFF
}

// times multiplies two registers as polynomials modulo that of the sum; the highest bit is worth 1, and a step is a multiplication by x.
func times(a, b uint32) uint32 {
	sum := uint32(0)
	for i := 31; i >= 0; i-- {
		if a>>i&1 == 1 {
			sum ^= b
		}
		b = modelStep(b)
	}
	return sum
}

// modelPass is 8 * n steps of a register, by the power of x that they are.
func modelPass(r uint32, n uint64) uint32 {
	power := uint32(1) << 23
	for ; n > 0; n >>= 1 {
		if n&1 == 1 {
			r = times(r, power)
		}
		power = times(power, power)
	}
	return r
}

// someNumbers are registers at the edges and of any kind.
func someNumbers() []uint32 {
	d := rand.New(rand.NewSource(2))
	all := []uint32{0, 1, 2, 3, 0x80000000, 0x7FFFFFFF, 0xFFFFFFFF, 0xFFFFFFFE, 0x82F63B78, 0x7D09C487}
	for i := range 32 {
		all = append(all, 1<<i)
	}
	for range 40 {
		all = append(all, d.Uint32())
	}
	return all
}
