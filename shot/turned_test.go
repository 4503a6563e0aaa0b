package shot_test

import (
	"fmt"
	"slices"
	"testing"
)

// lone are slots of which one, that of the generation, is given, and the other has nothing.
func lone(size int, gen uint64, slot [][]byte) [][]byte {
	if gen%2 == 1 {
		return slices.Concat(slot, empty(size))
	}
	return slices.Concat(empty(size), slot)
}

// eachTurned has each byte of each sector of a slot turned.
func eachTurned(slot [][]byte, turns []byte, each func(what string, sector int, turned [][]byte)) {
	for sector := range slot {
		for at := range 64 {
			for _, by := range turns {
				turned := slices.Clone(slot)
				turned[sector] = with(slot[sector], at, slot[sector][at]^by)
				each(fmt.Sprintf("sector %d, byte %d turned by %d", sector, at, by), sector, turned)
			}
		}
	}
}

// P12.7: each byte of each sector that belongs to a snapshot, turned into every other byte: it stands no more.
func TestEachByteTurned(t *testing.T) {
	var turns []byte
	for by := 1; by < 256; by++ {
		turns = append(turns, byte(by))
	}
	for _, gen := range []uint64{255, 1 << 40} {
		slot := standing(3, gen, text(65, 1))
		opened(t, "as it is", loaded(t, lone(3, gen, slot)...), 0, 3, int(gen), text(65, 1))
		eachTurned(slot, turns, func(what string, sector int, turned [][]byte) {
			wantFallen(t, fmt.Sprintf("generation %d: %s", gen, what), 3, gen, turned)
		})
	}
}

// P12.7: the like of other lengths and generations; what does not belong to a snapshot may be turned.
func TestEachByteTurnedOfOthers(t *testing.T) {
	for _, gen := range []uint64{1, 2, 3, 256, 1<<40 - 1} {
		for _, n := range []int{0, 1, 63, 64, 65, 127, 128} {
			own := 1 + (n+63)/64
			eachTurned(standing(4, gen, text(n, 1)), []byte{1, 128, 255}, func(what string, sector int, turned [][]byte) {
				what = fmt.Sprintf("generation %d, %d bytes: %s", gen, n, what)
				d := loaded(t, lone(4, gen, turned)...)
				if sector < own {
					opened(t, what, d, 0, 4, 0, nil)
				} else {
					opened(t, what, d, 0, 4, int(gen), text(n, 1))
				}
			})
		}
	}
}

// P12.7: a turned byte of the newest snapshot brings the older one back, and the next Save goes over what was turned.
func TestTurnedAndSaved(t *testing.T) {
	eachTurned(standing(3, 6, text(100, 2)), []byte{16}, func(what string, sector int, turned [][]byte) {
		d := loaded(t, slices.Concat(standing(3, 5, text(70, 1)), turned)...)
		s := opened(t, what, d, 0, 3, 5, text(70, 1))
		save(t, s, text(80, 3))
		wantDisk(t, what, d, slices.Concat(standing(3, 5, text(70, 1)), standing(3, 6, text(80, 3)))...)
	})
}
