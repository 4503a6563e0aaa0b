package shot_test

import (
	"bytes"
	"encoding/binary"
	"fmt"
	"math"
	"slices"
	"testing"
)

// beside are slots in which an older snapshot of no bytes stands, in the slot that a generation does not belong to; the other slot is given.
func beside(size int, gen uint64, slot [][]byte) [][]byte {
	if gen%2 == 1 {
		return slices.Concat(slot, standing(size, 2, nil))
	}
	return slices.Concat(standing(size, 1, nil), slot)
}

// wantFallen asks that what a slot has is no snapshot: alone, there is none; beside an older one that stands, there is that.
func wantFallen(t *testing.T, what string, size int, gen uint64, slot [][]byte) {
	t.Helper()
	if gen%2 == 1 {
		opened(t, what+", alone", loaded(t, slices.Concat(slot, empty(size))...), 0, size, 0, nil)
		opened(t, what+", beside", loaded(t, beside(size, gen, slot)...), 0, size, 2, nil)
		return
	}
	opened(t, what+", alone", loaded(t, slices.Concat(empty(size), slot)...), 0, size, 0, nil)
	opened(t, what+", beside", loaded(t, beside(size, gen, slot)...), 0, size, 1, nil)
}

// wantFound asks that what a slot has is a snapshot.
func wantFound(t *testing.T, what string, size int, gen uint64, slot [][]byte, data []byte) {
	t.Helper()
	opened(t, what, loaded(t, beside(size, gen, slot)...), 0, size, int(gen), data)
}

// headed is a slot with another head.
func headed(slot [][]byte, head []byte) [][]byte {
	return slices.Concat([][]byte{head}, slot[1:])
}

// P12.1: each sign turned in its turn, the head's sum being right for it.
func TestSigns(t *testing.T) {
	for _, gen := range []uint64{5, 6} {
		slot := standing(3, gen, text(70, 1))
		wantFound(t, "as it is", 3, gen, slot, text(70, 1))
		for at := range 4 {
			for by := 1; by < 256; by++ {
				turned := sumUp(with(slot[0], at, slot[0][at]^byte(by)))
				wantFallen(t, fmt.Sprintf("sign %d turned by %d", at, by), 3, gen, headed(slot, turned))
			}
		}
		small := sumUp(slices.Concat([]byte("shot"), slot[0][4:]))
		wantFallen(t, "small letters", 3, gen, headed(slot, small))
	}
}

// P12.1: generations that belong to the slot, or to the other one, or to none.
func TestGenerations(t *testing.T) {
	data := text(70, 1)
	for _, gen := range []uint64{3, 4, 5, 6, 255, 256, 257, 65535, 65536, 1 << 32, 1<<32 + 1, 1<<40 - 2, 1<<40 - 1, 1 << 40} {
		what := fmt.Sprintf("generation %d", gen)
		slot := standing(3, gen, data)
		wantFound(t, what, 3, gen, slot, data)
		wantFallen(t, what+" in the other slot", 3, gen+1, slot)
	}
	for _, gen := range []uint64{0, 1<<40 + 1, 1<<40 + 2, 1<<40 + 3, 1 << 41, 1<<41 + 1, 1 << 48, 1<<48 + 1, 1 << 56, 1<<56 + 5, 1 << 62, math.MaxInt64 - 1, math.MaxInt64, 1 << 63, 1<<63 + 1, 1<<63 + 5, 1<<63 + 6, 1<<63 + 1<<40, math.MaxUint64 - 1, math.MaxUint64} {
		what := fmt.Sprintf("generation %d", gen)
		wantFallen(t, what+" in slot 0", 3, 1, standing(3, gen, data))
		wantFallen(t, what+" in slot 1", 3, 2, standing(3, gen, data))
	}
}

// P12.1: generations that belong to the other slot do not stand, though they are the greater ones.
func TestBothInTheOtherSlot(t *testing.T) {
	rows := slices.Concat(standing(2, 8, text(9, 1)), standing(2, 9, text(9, 2)))
	opened(t, "both", loaded(t, rows...), 0, 2, 0, nil)
	rows = slices.Concat(standing(2, 3, text(9, 1)), standing(2, 9, text(9, 2)))
	opened(t, "the second", loaded(t, rows...), 0, 2, 3, text(9, 1))
	rows = slices.Concat(standing(2, 8, text(9, 1)), standing(2, 2, text(9, 2)))
	opened(t, "the first", loaded(t, rows...), 0, 2, 2, text(9, 2))
}

// P12.1: every length from none to one above what a slot takes, the sum being that of so many bytes.
func TestLengths(t *testing.T) {
	for _, size := range []int{2, 3, 4} {
		for n := 0; n <= 64*(size-1); n++ {
			for _, gen := range []uint64{7, 8} {
				wantFound(t, fmt.Sprintf("%d bytes of %d sectors", n, size), size, gen, standing(size, gen, text(n, n)), text(n, n))
			}
		}
		most := 64 * (size - 1)
		for _, n := range []int{most + 1, most + 2, most + 63, most + 64, most + 65} {
			for _, gen := range []uint64{7, 8} {
				slot := headed(standing(size, gen, text(most, n)), headFor(gen, text(n, n)))
				wantFallen(t, fmt.Sprintf("%d bytes of %d sectors", n, size), size, gen, slot)
			}
		}
	}
}

// P12.1: a length above what a slot takes does not stand, though the sectors behind the slot go on with the data.
func TestLengthBeyondTheSlot(t *testing.T) {
	data := text(200, 1)
	all := append([][]byte{headFor(3, data)}, bodyOf(data)...)
	for size := 2; size < 6; size++ {
		rows := append(slices.Clone(all), empty(7)...)
		if size == 5 {
			opened(t, "it has room", loaded(t, rows...), 0, size, 3, data)
		} else {
			opened(t, "it has no room", loaded(t, rows...), 0, size, 0, nil)
		}
		rows = slices.Concat(empty(size), headed(all, headFor(4, data)), empty(4))
		if size == 5 {
			opened(t, "it has room", loaded(t, rows...), 0, size, 4, data)
		} else {
			opened(t, "it has no room", loaded(t, rows...), 0, size, 0, nil)
		}
	}
}

// P12.1: a length that is not the data's, with the data's sum, or that of the bytes that it takes: the bytes behind them are 0 then or not.
func TestOtherLengths(t *testing.T) {
	data := text(130, 1)
	slot := standing(5, 3, data)
	body := slices.Concat(slot[1:]...)
	for n := range 257 {
		what := fmt.Sprintf("a length of %d", n)
		if n != 130 {
			wantFallen(t, what+", the old sum", 5, 3, headed(slot, headSaying(3, uint32(n), sumOf(data))))
		}
		head := headSaying(3, uint32(n), sumOf(body[:n]))
		end := (n + 63) / 64 * 64
		if len(bytes.Trim(body[n:end], "\x00")) == 0 {
			wantFound(t, what+", its own sum", 5, 3, headed(slot, head), body[:n])
		} else {
			wantFallen(t, what+", its own sum", 5, 3, headed(slot, head))
		}
	}
	for _, n := range []uint32{257, 258, 1 << 16, 1<<16 + 130, 1 << 24, 1<<24 + 130, 1 << 31, 1<<31 + 130, 1<<31 - 1, math.MaxUint32, math.MaxUint32 - 125} {
		wantFallen(t, fmt.Sprintf("a length of %d", n), 5, 3, headed(slot, headSaying(3, n, sumOf(data))))
		wantFallen(t, fmt.Sprintf("a length of %d, the whole body's sum", n), 5, 3, headed(slot, headSaying(3, n, sumOf(body))))
	}
}

// P12.1: another sum, the head's being right for it: one bit each, each byte, and such as a wrong reckoning would bring.
func TestOtherSums(t *testing.T) {
	data := text(70, 1)
	slot := standing(3, 4, data)
	right := sumOf(data)
	var turnedAbout [4]byte
	binary.LittleEndian.PutUint32(turnedAbout[:], right)
	wrong := []uint32{0, ^right, math.MaxUint32, sumOf(data[:69]), sumOf(slices.Concat(slot[1:]...)), sumOf(data[:64]), binary.BigEndian.Uint32(turnedAbout[:])}
	for bit := range 32 {
		wrong = append(wrong, right^1<<bit)
	}
	for _, sum := range wrong {
		wantFallen(t, fmt.Sprintf("sum %08x", sum), 3, 4, headed(slot, headSaying(4, 70, sum)))
	}
	none := standing(3, 4, nil)
	for _, sum := range []uint32{1, 1 << 31, math.MaxUint32} {
		wantFallen(t, fmt.Sprintf("sum %08x of no bytes", sum), 3, 4, headed(none, headSaying(4, 0, sum)))
	}
}

// P12.1: a byte that is not 0 among the head's zeros, its sum being right for it.
func TestHeadsZeros(t *testing.T) {
	for _, gen := range []uint64{3, 4} {
		slot := standing(3, gen, text(70, 1))
		for at := 20; at < 59; at++ {
			for _, b := range []byte{1, 2, 128, 165, 255} {
				wantFallen(t, fmt.Sprintf("byte %d is %d", at, b), 3, gen, headed(slot, sumUp(with(slot[0], at, b))))
			}
		}
	}
}

// P12.1: a head's sum that is none: every bit, all zeros, the lowest byte first; and every last byte.
func TestHeadsSumAndEnd(t *testing.T) {
	for _, gen := range []uint64{3, 4} {
		slot := standing(3, gen, text(70, 1))
		for at := 59; at < 63; at++ {
			for by := 1; by < 256; by++ {
				wantFallen(t, fmt.Sprintf("byte %d turned by %d", at, by), 3, gen, headed(slot, with(slot[0], at, slot[0][at]^byte(by))))
			}
		}
		unsummed := slices.Concat(slot[0][:59], make([]byte, 4), []byte{165})
		wantFallen(t, "no sum", 3, gen, headed(slot, unsummed))
		about := slices.Clone(slot[0])
		slices.Reverse(about[59:63])
		wantFallen(t, "the lowest byte first", 3, gen, headed(slot, about))
		for end := range 256 {
			if end != 165 {
				wantFallen(t, fmt.Sprintf("the last byte %d", end), 3, gen, headed(slot, with(slot[0], 63, byte(end))))
			}
		}
	}
}

// P12.1: bytes that are not 0 behind the data: up to the end of its last sector it falls, further behind it stands.
func TestBehindTheData(t *testing.T) {
	for _, n := range []int{0, 1, 2, 62, 63, 64, 65, 100, 127, 128, 129, 192} {
		slot := standing(5, 3, text(n, 1))
		end := (n + 63) / 64 * 64
		for at := n; at < 256; at++ {
			for _, b := range []byte{1, 255} {
				turned := slices.Clone(slot)
				turned[1+at/64] = with(slot[1+at/64], at%64, b)
				what := fmt.Sprintf("%d bytes, byte %d is %d", n, at, b)
				if at < end {
					wantFallen(t, what, 5, 3, turned)
				} else {
					wantFound(t, what, 5, 3, turned, text(n, 1))
				}
			}
		}
	}
}

// P12.1: whatever else stands in a slot is no snapshot.
func TestOtherSlots(t *testing.T) {
	for _, b := range []byte{0, 1, 83, 165, 255} {
		rows := slices.Repeat([][]byte{full(b)}, 6)
		opened(t, fmt.Sprintf("all bytes %d", b), loaded(t, rows...), 0, 3, 0, nil)
	}
	slot := standing(3, 3, text(70, 1))
	moved := slices.Concat(slot[1:], slot[:1])
	wantFallen(t, "the head behind the body", 3, 3, moved)
	wantFallen(t, "the body's sectors turned about", 3, 3, [][]byte{slot[0], slot[2], slot[1]})
	wantFallen(t, "no body", 3, 3, [][]byte{slot[0], zeros(), zeros()})
	wantFallen(t, "a part of the body", 3, 3, [][]byte{slot[0], slot[1], zeros()})
	for at := range 64 {
		torn := slices.Concat(slot[0][:at], make([]byte, 64-at))
		wantFallen(t, fmt.Sprintf("a head torn at %d", at), 3, 3, headed(slot, torn))
		wiped := slices.Concat(make([]byte, at+1), slot[0][at+1:])
		wantFallen(t, fmt.Sprintf("a head wiped up to %d", at), 3, 3, headed(slot, wiped))
	}
}

// P12.1: data of bytes that look like something else.
func TestOddBytes(t *testing.T) {
	for i, data := range [][]byte{zeros(), make([]byte, 65), make([]byte, 128), full(165), headFor(1, nil), headFor(9, text(3, 1)), slices.Concat(headFor(3, nil), headFor(4, nil)), {0}, {0, 0, 1}} {
		for _, gen := range []uint64{5, 6} {
			wantFound(t, fmt.Sprintf("odd bytes %d", i), 3, gen, standing(3, gen, data), data)
		}
		d := fresh(t, 6)
		s := opened(t, "a new disk", d, 0, 3, 0, nil)
		save(t, s, data)
		save(t, s, data)
		opened(t, fmt.Sprintf("odd bytes %d, saved", i), d, 0, 3, 2, data)
		wantDisk(t, "odd bytes", d, slices.Concat(standing(3, 1, data), standing(3, 2, data))...)
	}
}
