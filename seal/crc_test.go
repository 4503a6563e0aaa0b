package seal_test

import (
	"encoding/binary"
	"hash/crc32"
	"math/rand"
	"slices"
	"testing"

	"haulage/seal"
)

// P2.1: the sum as the chapter tells it, and as the library has it.
func TestCRC(t *testing.T) {
	table := crc32.MakeTable(crc32.Castagnoli)
	for _, p := range texts() {
		want(t, "CRC", seal.CRC(p), modelCRC(p))
		want(t, "CRC", seal.CRC(p), crc32.Checksum(p, table))
	}
}

// P2.1: all texts of two bytes, so that each of them meets each lowest byte of a register.
func TestCRCOfTwoBytes(t *testing.T) {
	for a := range 256 {
		for b := range 256 {
			p := []byte{byte(a), byte(b)}
			want(t, "CRC", seal.CRC(p), modelCRC(p))
		}
	}
}

// P2.5: with the tail behind it, every text has the sum that was wanted.
func TestTail(t *testing.T) {
	d := rand.New(rand.NewSource(3))
	for _, p := range texts() {
		for _, wanted := range []uint32{0, 1, 0x80000000, 0xFFFFFFFF, seal.CRC(p), ^seal.CRC(p), d.Uint32()} {
			tail := seal.Tail(seal.CRC(p), wanted)
			want(t, "CRC with the tail", modelCRC(slices.Concat(p, tail[:])), wanted)
		}
	}
}

// P2.5: what is answered hangs on the sum alone; a is any number, for each is the sum of a text (of four bytes: Tail(0, a)).
func TestTailOfAnySums(t *testing.T) {
	for _, a := range someNumbers() {
		p := seal.Tail(0, a)
		want(t, "CRC", modelCRC(p[:]), a)
		for _, wanted := range someNumbers() {
			tail := seal.Tail(a, wanted)
			want(t, "CRC with the tail", modelCRC(append(p[:], tail[:]...)), wanted)
		}
	}
}

// P2.5: the only four bytes: behind one text, other bytes have another sum, and from their sum Tail finds them back.
func TestTailIsTheOnlyOne(t *testing.T) {
	p := []byte("some text")
	for _, n := range someNumbers() {
		var four [4]byte
		binary.LittleEndian.PutUint32(four[:], n)
		want(t, "Tail", seal.Tail(seal.CRC(p), seal.CRC(slices.Concat(p, four[:]))), four)
	}
}

// P2.8: what a change of four bytes side by side makes of the sum is the same for all texts of one length (sums are held against each other), and the changes of their 32 bits are such that no choice among them is nothing: so no change of these bytes is passed over.
func TestChangesOfFourBytesAreTold(t *testing.T) {
	for _, length := range []int{4, 5, 8, 9, 64, 300} {
		for place := range length - 3 {
			var basis [32]uint32
			for bit := range 32 {
				change := changeOf(length, place, bit)
				if !independent(&basis, change) {
					t.Fatalf("length %d, bytes %d to %d, bit %d: a change is passed over", length, place, place+3, bit)
				}
			}
		}
	}
}

// changeOf is what one bit of the four bytes from place on makes of the sum.
func changeOf(length, place, bit int) uint32 {
	p := make([]byte, length)
	plain := seal.CRC(p)
	p[place+bit/8] = 1 << (bit % 8)
	return plain ^ seal.CRC(p)
}

// independent says whether a number can't be made of those that came before, and takes it in.
func independent(basis *[32]uint32, n uint32) bool {
	for i := 31; i >= 0; i-- {
		if n>>i&1 == 0 {
			continue
		}
		if basis[i] == 0 {
			basis[i] = n
			return true
		}
		n ^= basis[i]
	}
	return false
}

// P2.8: texts of any kind, with one to four bytes side by side changed at any place.
func TestChangedTextsAreTold(t *testing.T) {
	d := rand.New(rand.NewSource(4))
	for range 20000 {
		p := someBytes(d, 1+d.Intn(60))
		q := slices.Clone(p)
		place := d.Intn(len(p))
		end := min(len(p), place+1+d.Intn(4))
		for i := place; i < end; i++ {
			q[i] = byte(d.Intn(256))
		}
		if !slices.Equal(p, q) && seal.CRC(p) == seal.CRC(q) {
			t.Fatalf("%v and %v have one sum", p, q)
		}
	}
}

// P2.8: a byte of a text, whatever it is turned to, is told by both sums.
func TestOneByteIsTold(t *testing.T) {
	d := rand.New(rand.NewSource(5))
	for length := 1; length < 40; length++ {
		p := someBytes(d, length)
		for place := range p {
			sums, marks := map[uint32]int{}, map[uint64]int{}
			for b := range 256 {
				p[place] = byte(b)
				sums[seal.CRC(p)]++
				marks[seal.FNV(p)]++
			}
			want(t, "unlike sums", len(sums), 256)
			want(t, "unlike marks", len(marks), 256)
		}
	}
}
