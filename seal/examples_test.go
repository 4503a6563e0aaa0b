package seal_test

import (
	"testing"

	"haulage/seal"
)

// The chapter's table "Examples", row by row.
func TestExamples(t *testing.T) {
	want(t, "CRC", seal.CRC([]byte("123456789")), 0xE3069283)
	want(t, "CRC", seal.CRC(nil), 0)
	want(t, "CRC", seal.CRC([]byte{}), 0)
	want(t, "CRC", seal.CRC([]byte("abc")), 0x364B3FB7)

	want(t, "CRC", seal.CRC([]byte("ab")), 0xE2A22936)
	want(t, "CRC", seal.CRC([]byte("c")), 0x20EB33C7)
	want(t, "Join", seal.Join(0xE2A22936, 0x20EB33C7, 1), 0x364B3FB7)

	want(t, "Join", seal.Join(7, 9, 0), 14)
	want(t, "Join", seal.Join(7, 9, -4), 14)

	want(t, "Turn", seal.Turn(0x364B3FB7, 1, 3), 0x02AC972E)
	want(t, "CRC", seal.CRC([]byte("aac")), 0x02AC972E)
	want(t, "Turn", seal.Turn(0, 0, 1), 0xF26B8303)
	want(t, "Turn", seal.Turn(0, -1, 1), 0xF26B8303)

	want(t, "Tail", seal.Tail(0x364B3FB7, 0), [4]byte{28, 164, 171, 173})

	want(t, "FNV", seal.FNV(), 0xCBF29CE484222325)
	want(t, "FNV", seal.FNV([]byte("a"), []byte("bc")), 0xE71FA2190541574B)
	want(t, "Back", seal.Back(0xE71FA2190541574B, []byte("c")), 0x089C4407B545986A)
	want(t, "FNV", seal.FNV([]byte("ab")), 0x089C4407B545986A)

	s := seal.NewStream()
	s.Write([]byte("ab"))
	want(t, "Sum", s.Sum(), 0xE2A22936)
	s.Write([]byte("c"))
	want(t, "Sum", s.Sum(), 0x364B3FB7)
	want(t, "Len", s.Len(), 3)
}
