package shot_test

import (
	"bytes"
	"fmt"
	"math/rand"
	"slices"
	"testing"

	"haulage/api"
	"haulage/disk"
	"haulage/shot"
)

// found is what Open tells: a generation and its data.
type found struct {
	gen  int
	data []byte
}

func (f found) is(other found) bool { return f.gen == other.gen && bytes.Equal(f.data, other.data) }

// wantOneOf opens a disk that a crash has left, and asks that it has one of what may be there.
func wantOneOf(t *testing.T, what string, d *disk.Disk, from, size int, may ...found) (*shot.Shots, found) {
	t.Helper()
	s, data, err := shot.Open(d, from, size)
	wantErr(t, what+": Open behind a crash", err, api.OK)
	now := found{s.Gen(), data}
	if !slices.ContainsFunc(may, now.is) {
		t.Fatalf("%s: generation %d, %v, may be: %v", what, now.gen, now.data, may)
	}
	return s, now
}

// cutOff is a disk with an image on which a Save had power for so many writes and syncs, and what that Save answered.
func cutOff(t *testing.T, image []byte, from, size int, data []byte, fuse int) (*disk.Disk, api.Errno) {
	t.Helper()
	d, err := disk.Load(image)
	wantErr(t, "Load", err, api.OK)
	s, _, err := shot.Open(d, from, size)
	wantErr(t, "Open", err, api.OK)
	d.Fuse(fuse)
	return d, s.Save(data)
}

// everyCrash has each end of the power within a Save, and behind it each crash with these cuts: each with its answer, on a disk of its own.
func everyCrash(t *testing.T, image []byte, from, size int, data []byte, cuts []int, each func(what string, d *disk.Disk, answer api.Errno)) {
	t.Helper()
	for fuse, answer := 0, api.ErrDiskPower; answer != api.OK; fuse++ {
		var d *disk.Disk
		d, answer = cutOff(t, image, from, size, data, fuse)
		pending := d.Pending()
		for mask := range 1 << pending {
			keep := make([]bool, pending)
			for i := range keep {
				keep[i] = mask>>i&1 == 1
			}
			for torn := -1; torn < pending; torn++ {
				for _, cut := range cuts {
					d, _ := cutOff(t, image, from, size, data, fuse)
					d.Crash(keep, torn, cut)
					each(fmt.Sprintf("fuse %d, keep %v, torn %d, cut %d", fuse, keep, torn, cut), d, answer)
					if torn < 0 {
						break
					}
				}
			}
		}
	}
}

// allCuts are those of a sector.
func allCuts() []int {
	var all []int
	for cut := range 65 {
		all = append(all, cut)
	}
	return all
}

// beginnings are slots of so many sectors, as Saves leave them, and what is found there.
func beginnings(size int) map[string]struct {
	rows [][]byte
	now  found
} {
	type one = struct {
		rows [][]byte
		now  found
	}
	return map[string]one{
		"none":            {empty(2 * size), found{}},
		"generation 1":    {slices.Concat(standing(size, 1, text(70, 1)), empty(size)), found{1, text(70, 1)}},
		"generation 2":    {slices.Concat(standing(size, 1, text(70, 1)), standing(size, 2, text(9, 2))), found{2, text(9, 2)}},
		"generation 3":    {slices.Concat(standing(size, 3, text(64, 3)), standing(size, 2, text(9, 2))), found{3, text(64, 3)}},
		"2 without bytes": {slices.Concat(standing(size, 1, text(9, 1)), standing(size, 2, nil)), found{2, nil}},
		"2, 1 being lost": {slices.Concat([][]byte{full(1), full(2)}, empty(size-2), standing(size, 2, text(9, 2))), found{2, text(9, 2)}},
		"1000 and 7":      {slices.Concat(standing(size, 7, text(9, 7)), standing(size, 1000, text(10, 8))), found{1000, text(10, 8)}},
		"the last but 1":  {slices.Concat(standing(size, maxTime-1, text(9, 7)), standing(size, maxTime-2, text(10, 8))), found{maxTime - 1, text(9, 7)}},
	}
}

// P12.6: the power's end ahead of each write and each sync of a Save, and every crash behind it, with every cut.
func TestEveryCrash(t *testing.T) {
	for name, b := range beginnings(4) {
		for _, n := range []int{0, 1, 64, 65} {
			image := slices.Concat(slices.Concat([][]byte{full(9)}, b.rows, [][]byte{full(9)})...)
			next := found{b.now.gen + 1, text(n, 5)}
			everyCrash(t, image, 1, 4, next.data, allCuts(), func(how string, d *disk.Disk, answer api.Errno) {
				what := fmt.Sprintf("%s, %d bytes: %s", name, n, how)
				may := []found{b.now, next}
				if answer == api.OK {
					may = may[1:]
				}
				wantOneOf(t, what, d, 1, 4, may...)
				wantBytes(t, what+": ahead of the slots", d.Image()[:64], full(9))
				wantBytes(t, what+": behind the slots", d.Image()[64*9:], full(9))
			})
		}
	}
}

// P12.6: what a longer Save leaves, each of its body's sectors kept, lost or torn.
func TestEveryCrashOfALongOne(t *testing.T) {
	for name, b := range beginnings(6) {
		next := found{b.now.gen + 1, text(320, 5)}
		everyCrash(t, slices.Concat(b.rows...), 0, 6, next.data, []int{1, 63}, func(how string, d *disk.Disk, answer api.Errno) {
			may := []found{b.now, next}
			if answer == api.OK {
				may = may[1:]
			}
			wantOneOf(t, name+": "+how, d, 0, 6, may...)
		})
	}
}

// onAndOn has each end of the power within a Save and each crash behind it, and the same again with each image that is left, so many Saves deep. seen are the images that were there already, by how deep it still went.
func onAndOn(t *testing.T, what string, image []byte, now found, deep int, seen map[string]bool) {
	t.Helper()
	key := fmt.Sprint(deep) + string(image)
	if deep == 0 || seen[key] {
		return
	}
	seen[key] = true
	next := found{now.gen + 1, text([]int{9, 70, 0, 128, 65}[deep], 10*deep+now.gen)}
	everyCrash(t, image, 0, 3, next.data, []int{1, 30, 63}, func(how string, d *disk.Disk, answer api.Errno) {
		what := what + "; " + how
		may := []found{now, next}
		if answer == api.OK {
			may = may[1:]
		}
		_, left := wantOneOf(t, what, d, 0, 3, may...)
		onAndOn(t, what, d.Image(), left, deep-1, seen)
	})
}

// P12.6: again and again.
func TestEveryCrashOnAndOn(t *testing.T) {
	for name, b := range beginnings(3) {
		if b.now.gen < maxTime-3 { // else there are no four Saves
			onAndOn(t, name, slices.Concat(b.rows...), b.now, 4, map[string]bool{})
		}
	}
}

// P12.6: as long as no snapshot had been the newest yet, there may be none, or the new one: both come about.
func TestFirstOfAll(t *testing.T) {
	none, new := 0, 0
	everyCrash(t, make([]byte, 64*6), 0, 3, text(70, 1), allCuts(), func(how string, d *disk.Disk, answer api.Errno) {
		_, now := wantOneOf(t, how, d, 0, 3, found{}, found{1, text(70, 1)})
		if now.gen == 0 {
			none++
		} else {
			new++
		}
	})
	if none == 0 || new < 3 {
		t.Fatalf("%d without a snapshot, %d with one", none, new)
	}
}

// someCrash lets the power go and come again.
func someCrash(r *rand.Rand, d *disk.Disk) {
	pending := d.Pending()
	keep := make([]bool, r.Intn(pending+3))
	often := r.Intn(4)
	for i := range keep {
		keep[i] = r.Intn(4) <= often
	}
	d.Crash(keep, r.Intn(pending+2)-1, r.Intn(68)-2)
}

// life is slots that have any Saves, crashes and Opens, one behind the other, two pairs of them on one disk.
func life(t *testing.T, r *rand.Rand) {
	t.Helper()
	size := [2]int{2 + r.Intn(7), 2 + r.Intn(7)}
	from := [2]int{1, 2 + 2*size[0]}
	end := from[1] + 2*size[1]
	rows := slices.Repeat([][]byte{full(9)}, end+1)
	copy(rows[from[0]:], empty(2*size[0]))
	copy(rows[from[1]:], empty(2*size[1]))
	d := loaded(t, rows...)
	var now [2]found
	for mark := range 40 {
		var s [2]*shot.Shots
		for i := range s {
			s[i], now[i] = wantOneOf(t, "a life", d, from[i], size[i], now[i])
		}
		d.Fuse(r.Intn(25))
		may := [2][]found{{now[0]}, {now[1]}}
		for err := api.OK; err == api.OK; {
			i := r.Intn(2)
			data := text(r.Intn(s[i].Most()+1), mark)
			next := found{s[i].Gen() + 1, data}
			if err = s[i].Save(data); err == api.OK {
				may[i] = []found{next}
			} else {
				wantErr(t, "Save", err, api.ErrDiskPower)
				may[i] = append(may[i], next)
			}
		}
		someCrash(r, d)
		for i := range s {
			_, now[i] = wantOneOf(t, "a life, crashed", d, from[i], size[i], may[i]...)
		}
		image := d.Image()
		for _, at := range []int{0, from[1] - 1, end} {
			wantBytes(t, fmt.Sprintf("sector %d, outside the slots", at), image[64*at:64*at+64], full(9))
		}
	}
}

// P12.5, P12.6, P12.8: many lives.
func TestLives(t *testing.T) {
	r := rand.New(rand.NewSource(126))
	for range 1500 {
		life(t, r)
	}
}
