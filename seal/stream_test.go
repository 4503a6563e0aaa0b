package seal_test

import (
	"math/rand"
	"testing"

	"haulage/seal"
)

// P2.2: a text written in parts of any lengths, none among them; the sum and the length asked behind each, twice.
func TestStream(t *testing.T) {
	d := rand.New(rand.NewSource(6))
	for range 300 {
		s := seal.NewStream()
		var all []byte
		for range d.Intn(12) {
			p := someBytes(d, d.Intn(40))
			s.Write(p)
			all = append(all, p...)
			for range 2 {
				want(t, "Sum", s.Sum(), modelCRC(all))
				want(t, "Len", s.Len(), len(all))
			}
		}
	}
}

// P2.2: byte by byte, it comes out like all at once; asked at the end alone, too.
func TestStreamByteByByte(t *testing.T) {
	for _, p := range texts() {
		s := seal.NewStream()
		for i := range p {
			s.Write(p[i : i+1])
		}
		want(t, "Sum", s.Sum(), seal.CRC(p))
		want(t, "Len", s.Len(), len(p))
	}
}

// P2.2: a new stream is empty; no bytes and nil change nothing, and zero bytes are bytes.
func TestStreamOfNothing(t *testing.T) {
	s := seal.NewStream()
	if s == nil {
		t.Fatal("NewStream: nil")
	}
	want(t, "Sum", s.Sum(), 0)
	want(t, "Len", s.Len(), 0)
	s.Write(nil)
	s.Write([]byte{})
	want(t, "Sum", s.Sum(), 0)
	want(t, "Len", s.Len(), 0)
	s.Write([]byte{0})
	s.Write(nil)
	want(t, "Sum", s.Sum(), modelCRC([]byte{0}))
	want(t, "Len", s.Len(), 1)
	s.Write([]byte{0, 0})
	want(t, "Sum", s.Sum(), modelCRC([]byte{0, 0, 0}))
	want(t, "Len", s.Len(), 3)
}

// P2.2: a stream that is nil.
func TestStreamNil(t *testing.T) {
	var s *seal.Stream
	for range 2 {
		s.Write([]byte("abc"))
		s.Write(nil)
		want(t, "Sum", s.Sum(), 0)
		want(t, "Len", s.Len(), 0)
	}
}

// "Types": two streams have nothing to do with one another.
func TestStreamsApart(t *testing.T) {
	a, b := seal.NewStream(), seal.NewStream()
	a.Write([]byte("ab"))
	want(t, "Sum of the other", b.Sum(), 0)
	want(t, "Len of the other", b.Len(), 0)
	b.Write([]byte("123456789"))
	a.Write([]byte("c"))
	want(t, "Sum", a.Sum(), 0x364B3FB7)
	want(t, "Len", a.Len(), 3)
	want(t, "Sum of the other", b.Sum(), 0xE3069283)
	want(t, "Len of the other", b.Len(), 9)
	want(t, "Sum of a third", seal.NewStream().Sum(), 0)
}
