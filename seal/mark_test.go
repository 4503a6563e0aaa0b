package seal_test

import (
	"hash/fnv"
	"math"
	"math/big"
	"math/rand"
	"slices"
	"testing"

	"haulage/seal"
)

// modelMark is where a number comes to by the bytes of p, as the chapter tells it, in numbers without end.
func modelMark(from uint64, p []byte) uint64 {
	mark := new(big.Int).SetUint64(from)
	two64 := new(big.Int).Lsh(big.NewInt(1), 64)
	for _, b := range p {
		mark.Xor(mark, big.NewInt(int64(b)))
		mark.Mul(mark, big.NewInt(1099511628211))
		mark.Mod(mark, two64)
	}
	return mark.Uint64()
}

// P2.6: the mark as the chapter tells it, and as the library has it.
func TestFNV(t *testing.T) {
	for _, p := range texts() {
		want(t, "FNV", seal.FNV(p), modelMark(14695981039346656037, p))
		h := fnv.New64a()
		h.Write(p)
		want(t, "FNV", seal.FNV(p), h.Sum64())
	}
}

// P2.6: it is the same in whatever parts a text comes, empty ones and nil among them.
func TestFNVOfParts(t *testing.T) {
	d := rand.New(rand.NewSource(10))
	for range 500 {
		var parts [][]byte
		for range d.Intn(8) {
			parts = append(parts, someBytes(d, d.Intn(9)))
			if d.Intn(3) == 0 {
				parts = append(parts, nil, []byte{})
			}
		}
		want(t, "FNV", seal.FNV(parts...), seal.FNV(slices.Concat(parts...)))
	}
	want(t, "FNV", seal.FNV([]byte("b"), []byte("a")), modelMark(14695981039346656037, []byte("ba")))
}

// P2.6: without parts, or bytes, it is where it begins.
func TestFNVOfNothing(t *testing.T) {
	for _, parts := range [][][]byte{nil, {}, {nil}, {{}}, {nil, {}, nil}} {
		want(t, "FNV", seal.FNV(parts...), 14695981039346656037)
	}
}

// P2.7: back from where the bytes lead, from any number.
func TestBack(t *testing.T) {
	d := rand.New(rand.NewSource(11))
	for _, p := range texts() {
		if len(p) > 1000 {
			continue
		}
		for _, from := range []uint64{0, 1, 255, 14695981039346656037, math.MaxUint64, 1 << 63, d.Uint64()} {
			want(t, "Back", seal.Back(modelMark(from, p), p), from)
			want(t, "forwards from Back", modelMark(seal.Back(from, p), p), from)
		}
	}
}

// P2.7: part by part, the last one first, it leads to the beginning.
func TestBackByParts(t *testing.T) {
	a, b, c := []byte("some"), []byte{0, 255}, []byte("text")
	mark := seal.FNV(a, b, c)
	want(t, "Back", seal.Back(mark, c), seal.FNV(a, b))
	want(t, "Back", seal.Back(seal.Back(mark, c), b), seal.FNV(a))
	want(t, "Back", seal.Back(seal.Back(seal.Back(mark, c), b), a), seal.FNV())
}

// P2.7: of no bytes.
func TestBackOfNothing(t *testing.T) {
	for _, mark := range []uint64{0, 1, 14695981039346656037, math.MaxUint64} {
		want(t, "Back", seal.Back(mark, nil), mark)
		want(t, "Back", seal.Back(mark, []byte{}), mark)
	}
}
