package shot_test

import (
	"fmt"
	"math"
	"slices"
	"testing"

	"haulage/api"
	"haulage/disk"
)

// place is where slots are said to be.
type place struct{ from, size int }

// wrongPlaces are no slots of a disk of so many sectors, an even number.
func wrongPlaces(sectors int) []place {
	return []place{
		{-1, 2}, {-1, 3}, {-2, sectors / 2}, {-sectors, sectors}, {math.MinInt, 2}, {math.MinInt, math.MaxInt}, {math.MinInt, math.MinInt},
		{0, 1}, {0, 0}, {0, -1}, {0, -2}, {0, math.MinInt}, {2, 1}, {2, 0}, {2, -2}, {sectors - 2, 1}, {sectors, 0}, {sectors + 2, -1}, {sectors + 4, -2}, {math.MaxInt, -2}, {math.MaxInt, math.MinInt},
		{0, sectors/2 + 1}, {1, sectors / 2}, {2, sectors / 2}, {sectors - 3, 2}, {sectors - 2, 2}, {sectors - 1, 2}, {sectors, 2}, {sectors + 1, 2}, {0, sectors}, {65536, 2}, {0, 32769}, {0, 65536},
		{0, 1 << 62}, {0, 1 << 61}, {0, 1<<62 + 2}, {0, 1<<62 + 3}, {2, 1<<62 + 2}, {0, math.MaxInt}, {1, math.MaxInt}, {2, math.MaxInt}, {4, math.MaxInt}, {2, math.MaxInt - 1},
		{math.MaxInt, 2}, {math.MaxInt - 3, 2}, {math.MaxInt - 4, 2}, {math.MaxInt - 1, 3}, {math.MaxInt, 1}, {math.MaxInt, math.MaxInt}, {math.MaxInt, 1 << 62}, {1 << 62, 1 << 61}, {1 << 62, 1 << 62},
	}
}

// P12.1: no disk; no slots of the disk's.
func TestOpenRefuses(t *testing.T) {
	for _, p := range append(wrongPlaces(8), place{0, 2}, place{0, 4}) {
		wantNotOpened(t, nil, p.from, p.size, api.ErrNil)
	}
	d := loaded(t, slices.Concat(standing(4, 1, text(9, 1)), standing(4, 2, text(9, 2)))...)
	d.Write(3, full(9))
	for _, p := range wrongPlaces(8) {
		wantNotOpened(t, d, p.from, p.size, api.ErrArg)
	}
	for _, p := range wrongPlaces(6) {
		wantNotOpened(t, fresh(t, 6), p.from, p.size, api.ErrArg)
	}
}

// P12.1: an odd number of sectors leaves one over: no slot has it.
func TestOpenOnOddDisks(t *testing.T) {
	for sectors := 1; sectors < 14; sectors++ {
		d := fresh(t, sectors)
		for from := -1; from < 15; from++ {
			for size := -1; size < 15; size++ {
				if from >= 0 && size >= 2 && from+2*size <= sectors {
					opened(t, fmt.Sprintf("%d sectors", sectors), d, from, size, 0, nil)
				} else {
					wantNotOpened(t, d, from, size, api.ErrArg)
				}
			}
		}
	}
}

// P12.1, P0.2: what may not be given is told ahead of a power that is off; that is told of slots that may be, whatever stands there.
func TestOpenWithoutPower(t *testing.T) {
	d := loaded(t, slices.Concat(standing(4, 1, text(9, 1)), standing(4, 2, text(9, 2)))...)
	d.Fuse(0)
	for _, p := range wrongPlaces(8) {
		wantNotOpened(t, d, p.from, p.size, api.ErrArg)
	}
	wantNotOpened(t, d, 0, 4, api.ErrDiskPower)
	wantNotOpened(t, d, 2, 3, api.ErrDiskPower)
	d.Fuse(-1)
	opened(t, "the power is there again", d, 0, 4, 2, text(9, 2))
	none := fresh(t, 4)
	none.Fuse(0)
	wantNotOpened(t, none, 0, 2, api.ErrDiskPower)
	wantNotOpened(t, &disk.Disk{}, 0, 2, api.ErrArg)
}

// P12.1: Open writes nothing and syncs nothing: the last bit of a fuse is not burnt by it.
func TestOpenBurnsNoFuse(t *testing.T) {
	d := loaded(t, slices.Concat(standing(3, 3, text(70, 1)), standing(3, 2, text(9, 2)))...)
	d.Fuse(1)
	for range 5 {
		opened(t, "a fuse of 1", d, 0, 3, 3, text(70, 1))
	}
	wantErr(t, "the one that is left", d.Sync(), api.OK)
	wantNotOpened(t, d, 0, 3, api.ErrDiskPower)
}

// P12.1, P12.3: slots of all places and sizes of a disk: one snapshot is found where its head begins the slot of its generation, and nowhere else.
func TestOpenPlaces(t *testing.T) {
	for _, gen := range []int{1, 2, 255, 256, 1<<40 - 1, 1 << 40} {
		for at := range 11 {
			data := text([]int{0, 1, 63, 64}[at%4], gen)
			rows := empty(12)
			copy(rows[at:], standing(2, uint64(gen), data))
			d := loaded(t, rows...)
			for from := range 9 {
				for size := 2; from+2*size <= 12; size++ {
					what := fmt.Sprintf("generation %d at %d", gen, at)
					if gen%2 == 1 && at == from || gen%2 == 0 && at == from+size {
						opened(t, what, d, from, size, gen, data)
					} else {
						opened(t, what, d, from, size, 0, nil)
					}
				}
			}
		}
	}
}

// P12.1: the newest is the one with the greater generation, wherever it stands; both slots standing, one, none.
func TestOpenTakesTheNewest(t *testing.T) {
	odd, even := []uint64{0, 1, 3, 5, 255, 257, 1<<40 - 1}, []uint64{0, 2, 4, 6, 256, 258, 1 << 32, 1<<40 - 2, 1 << 40}
	for _, a := range odd {
		for _, b := range even {
			rows := empty(6)
			if a > 0 {
				copy(rows, standing(3, a, text(70, int(a))))
			}
			if b > 0 {
				copy(rows[3:], standing(3, b, text(100, int(b))))
			}
			what := fmt.Sprintf("generations %d and %d", a, b)
			switch {
			case a == 0 && b == 0:
				opened(t, what, loaded(t, rows...), 0, 3, 0, nil)
			case a > b:
				opened(t, what, loaded(t, rows...), 0, 3, int(a), text(70, int(a)))
			default:
				opened(t, what, loaded(t, rows...), 0, 3, int(b), text(100, int(b)))
			}
		}
	}
}

// P12.1: the newest one has no bytes, the older one has: there are none.
func TestOpenOfNoBytes(t *testing.T) {
	d := loaded(t, slices.Concat(standing(2, 1, text(9, 1)), standing(2, 2, nil))...)
	opened(t, "the newest is empty", d, 0, 2, 2, nil)
	d = loaded(t, slices.Concat(standing(2, 3, nil), standing(2, 2, text(9, 2)))...)
	opened(t, "the newest is empty", d, 0, 2, 3, nil)
}

// P12.1: what waits is read, not what is safe.
func TestOpenReadsWhatWaits(t *testing.T) {
	d := loaded(t, slices.Concat(standing(2, 1, text(9, 1)), standing(2, 2, text(9, 2)))...)
	d.Write(2, zeros())
	opened(t, "the newest's head is wiped", d, 0, 2, 1, text(9, 1))
	d.Write(1, bodyOf(text(9, 3))[0])
	opened(t, "the older one's body is another", d, 0, 2, 0, nil)
	d.Write(0, headFor(7, text(9, 3)))
	opened(t, "it has a head of its own", d, 0, 2, 7, text(9, 3))
	d.Crash(nil, -1, 0)
	opened(t, "all of that is lost", d, 0, 2, 2, text(9, 2))
}

// P12.1: slots that take the whole of the greatest disk.
func TestOpenTheGreatest(t *testing.T) {
	long := text(64*32767, 5)
	d := loaded(t, slices.Concat(empty(32768), standing(32768, 8, long))...)
	s := opened(t, "the greatest", d, 0, 32768, 8, long)
	wantErr(t, "one byte more", s.Save(append(slices.Clone(long), 1)), api.ErrShotRoom)
	slices.Reverse(long)
	save(t, s, long)
	opened(t, "the greatest, saved", d, 0, 32768, 9, long)
	wantNotOpened(t, d, 0, 32769, api.ErrArg)
	wantNotOpened(t, d, 1, 32768, api.ErrArg)
}
