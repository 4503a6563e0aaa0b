package seal_test

import (
	"slices"
	"testing"

	"haulage/seal"
)

// P2.9: the bytes handed in stay as they were, and so does the spare room behind them.
func TestNothingIsChanged(t *testing.T) {
	whole := []byte("some text and the room behind it")
	was := slices.Clone(whole)
	p := whole[:9]
	seal.CRC(p)
	seal.FNV(p, p[2:4], nil, p)
	seal.Back(7, p)
	s := seal.NewStream()
	s.Write(p)
	s.Write(p[:0])
	s.Sum()
	if !slices.Equal(whole, was) {
		t.Fatalf("%q was changed to %q", was, whole)
	}
}

// P2.9: the list of the parts stays as it was, with its spare room.
func TestPartsAreNotChanged(t *testing.T) {
	whole := [][]byte{[]byte("a"), nil, []byte("bc"), []byte("behind")}
	want(t, "FNV", seal.FNV(whole[:3]...), 0xE71FA2190541574B)
	if string(whole[0]) != "a" || whole[1] != nil || string(whole[2]) != "bc" || string(whole[3]) != "behind" {
		t.Fatalf("the parts were changed to %q", whole)
	}
}

// P2.9: a stream does not keep what was written: changed behind it, it counts as it was.
func TestNothingIsKept(t *testing.T) {
	s := seal.NewStream()
	p := []byte("ab")
	s.Write(p)
	p[0], p[1] = 'x', 'y'
	want(t, "Sum", s.Sum(), 0xE2A22936)
	p[0] = 'c'
	s.Write(p[:1])
	p[0] = 'z'
	want(t, "Sum", s.Sum(), 0x364B3FB7)
}

// P2.5: the four bytes are the caller's own.
func TestTailIsNew(t *testing.T) {
	tail := seal.Tail(0x364B3FB7, 0)
	tail[0], tail[3] = 9, 9
	want(t, "Tail", seal.Tail(0x364B3FB7, 0), [4]byte{28, 164, 171, 173})
}
