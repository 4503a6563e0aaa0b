package shot_test

import (
	"fmt"
	"slices"
	"testing"

	"haulage/api"
	"haulage/disk"
	"haulage/shot"
)

// edgeLengths are lengths about the ends of sectors, up to most.
func edgeLengths(most int) []int {
	var all []int
	for _, n := range []int{0, 1, 2, 63, 64, 65, 127, 128, 129, 191, 192, 193, most - 64, most - 63, most - 1, most} {
		if n >= 0 && n <= most {
			all = append(all, n)
		}
	}
	return all
}

// P12.2: data of every length about the ends of sectors stands as the chapter forms it, in the slot of its generation, and no write more than that is made.
func TestSaveLengths(t *testing.T) {
	for _, size := range []int{2, 3, 5} {
		for _, n := range edgeLengths(64 * (size - 1)) {
			what := fmt.Sprintf("%d bytes into %d sectors", n, size)
			d := fresh(t, 2*size+2)
			s := opened(t, what, d, 1, size, 0, nil)
			save(t, s, text(n, 1))
			body := (n + 63) / 64
			wantCounts(t, what, d, body+1, 2)
			wantDisk(t, what, d, slices.Concat(empty(1), standing(size, 1, text(n, 1)), empty(size+1))...)
			opened(t, what, d, 1, size, 1, text(n, 1))
			save(t, s, text(n, 2))
			wantCounts(t, what, d, 2*body+2, 4)
			wantDisk(t, what, d, slices.Concat(empty(1), standing(size, 1, text(n, 1)), standing(size, 2, text(n, 2)), empty(1))...)
			save(t, s, text(n, 3))
			wantCounts(t, what+", a head is wiped", d, 3*body+4, 7)
			wantDisk(t, what, d, slices.Concat(empty(1), standing(size, 3, text(n, 3)), standing(size, 2, text(n, 2)), empty(1))...)
			opened(t, what, again(t, d), 1, size, 3, text(n, 3))
		}
	}
}

// P12.2: every length of a small slot, one behind the other in one life.
func TestSaveAllLengths(t *testing.T) {
	d := fresh(t, 6)
	s := opened(t, "a new disk", d, 0, 3, 0, nil)
	for n := range 129 {
		save(t, s, text(n, n))
		opened(t, "saved", d, 0, 3, n+1, text(n, n))
	}
	for n := 128; n >= 0; n-- {
		save(t, s, text(n, n))
		opened(t, "saved, ever less", again(t, d), 0, 3, 258-n, text(n, n))
	}
}

// P12.2, P0.3: one byte more than a slot takes, and many more: nothing has changed, and the object goes on.
func TestSaveTooMuch(t *testing.T) {
	for size := 2; size < 6; size++ {
		d := fresh(t, 2*size)
		s := opened(t, "a new disk", d, 0, size, 0, nil)
		for gen := range 4 {
			most := 64 * (size - 1)
			for _, n := range []int{most + 1, most + 2, most + 63, most + 64, most + 65, most + 100000} {
				what := fmt.Sprintf("%d bytes into %d sectors", n, size)
				wantUntouched(t, what, d, func() { wantErr(t, what, s.Save(text(n, n)), api.ErrShotRoom) })
				wantShots(t, what, s, gen, most)
			}
			save(t, s, text(most, gen))
			opened(t, "as much as there is room", d, 0, size, gen+1, text(most, gen))
		}
	}
}

// P12.2: behind the last generation there is none; the one ahead of it leads there.
func TestSaveTheLast(t *testing.T) {
	d := loaded(t, slices.Concat(standing(2, maxTime-3, text(3, 1)), standing(2, maxTime-2, text(4, 2)))...)
	s := opened(t, "two are left", d, 0, 2, maxTime-2, text(4, 2))
	save(t, s, text(5, 3))
	save(t, s, text(6, 4))
	wantShots(t, "none is left", s, maxTime, 64)
	end := func(s *shot.Shots) {
		t.Helper()
		for _, n := range []int{0, 1, 64} {
			wantUntouched(t, "no generation is left", d, func() { wantErr(t, "Save", s.Save(text(n, 5)), api.ErrShotEnd) })
		}
		wantUntouched(t, "too much, at the end", d, func() { wantErr(t, "Save", s.Save(text(65, 5)), api.ErrShotRoom) })
		wantShots(t, "none is left", s, maxTime, 64)
	}
	end(s)
	want := slices.Concat(standing(2, maxTime-1, text(5, 3)), standing(2, maxTime, text(6, 4)))
	wantDisk(t, "the last two", d, want...)
	end(opened(t, "the last one", d, 0, 2, maxTime, text(6, 4)))

	d.Fuse(0)
	wantErr(t, "at the end without power", s.Save(nil), api.ErrShotEnd)
	d.Fuse(-1)
	end(s)
}

// P12.2: a generation that falls behind the other slot's: what is next is one more than the newest, wherever the older one is.
func TestSaveBehindGaps(t *testing.T) {
	for _, c := range [][2]uint64{{9, 2}, {1, 8}, {9, 0}, {0, 8}, {1, maxTime - 2}, {maxTime - 1, 2}} {
		rows := empty(6)
		if c[0] > 0 {
			copy(rows, standing(3, c[0], text(70, 1)))
		}
		if c[1] > 0 {
			copy(rows[3:], standing(3, c[1], text(100, 2)))
		}
		newest, left := c[0], standing(3, c[0], text(70, 1))
		data := text(70, 1)
		if c[1] > c[0] {
			newest, left, data = c[1], standing(3, c[1], text(100, 2)), text(100, 2)
		}
		d := loaded(t, rows...)
		s := opened(t, "a gap", d, 0, 3, int(newest), data)
		save(t, s, text(128, 3))
		laid := standing(3, newest+1, text(128, 3))
		if newest%2 == 0 {
			wantDisk(t, "a gap", d, slices.Concat(laid, left)...)
		} else {
			wantDisk(t, "a gap", d, slices.Concat(left, laid)...)
		}
	}
}

// P12.2: what a longer snapshot left behind the data in the body stays there, unwritten, and is not seen.
func TestSaveOverLonger(t *testing.T) {
	d := fresh(t, 8)
	s := opened(t, "a new disk", d, 0, 4, 0, nil)
	save(t, s, text(192, 1))
	save(t, s, text(190, 2))
	save(t, s, text(65, 3))
	save(t, s, nil)
	first, second := bodyOf(text(192, 1)), bodyOf(text(190, 2))
	third := bodyOf(text(65, 3))
	wantDisk(t, "what is left", d, headFor(3, text(65, 3)), third[0], third[1], first[2], headFor(4, nil), second[0], second[1], second[2])
	opened(t, "what stands", d, 0, 4, 4, nil)
	d.Write(4, full(1))
	opened(t, "the older one", d, 0, 4, 3, text(65, 3))
}

// step is what a power's end leaves of a call: the safe sectors, and the writes that wait.
type step struct {
	safe  [][]byte
	waits []waiting
}

// waiting is a write that waits.
type waiting struct {
	sector int
	data   []byte
}

// wantSteps has a Save on a disk whose power goes ahead of each of its writes and syncs; the last of the steps is when it goes well.
func wantSteps(t *testing.T, what string, rows [][]byte, from, size int, data []byte, steps []step) {
	t.Helper()
	for fuse, w := range steps {
		what := fmt.Sprintf("%s, fuse %d", what, fuse)
		d := loaded(t, rows...)
		s, _, err := shot.Open(d, from, size)
		wantErr(t, what+": Open", err, api.OK)
		gen := s.Gen()
		d.Fuse(fuse)
		if fuse == len(steps)-1 {
			wantErr(t, what, s.Save(data), api.OK)
			gen++
		} else {
			wantErr(t, what, s.Save(data), api.ErrDiskPower)
		}
		wantNum(t, what+": Gen", s.Gen(), gen)
		d.Fuse(-1)
		wantSafe(t, what, d, w.safe...)
		wantNum(t, what+": Pending", d.Pending(), len(w.waits))
		told := slices.Clone(w.safe)
		for _, one := range w.waits {
			told[one.sector] = one.data
		}
		for i := range told {
			p, _ := d.Read(i)
			wantBytes(t, fmt.Sprintf("%s: Read(%d)", what, i), p, told[i])
		}
	}
}

// put are the sectors with some of them being others.
func put(rows [][]byte, all ...waiting) [][]byte {
	rows = slices.Clone(rows)
	for _, w := range all {
		rows[w.sector] = w.data
	}
	return rows
}

// P12.2: over a head of zeros: the body, a sync, the head, a sync: in this order.
func TestSaveStepByStep(t *testing.T) {
	data := text(130, 1)
	body := bodyOf(data)
	old := slices.Concat([][]byte{full(9)}, empty(8), [][]byte{full(9)})
	a, b, c := waiting{2, body[0]}, waiting{3, body[1]}, waiting{4, body[2]}
	head := waiting{1, headFor(1, data)}
	laid := put(old, a, b, c)
	wantSteps(t, "a new disk", old, 1, 4, data, []step{
		{old, nil}, {old, []waiting{a}}, {old, []waiting{a, b}}, {old, []waiting{a, b, c}},
		{laid, nil}, {laid, []waiting{head}}, {put(laid, head), nil},
	})
}

// P12.2: over a head that is not zeros: it is wiped, a sync, the body, a sync, the head, a sync.
func TestSaveStepByStepOverAHead(t *testing.T) {
	data := text(70, 3)
	body := bodyOf(data)
	whole := standing(3, 2, text(128, 2))
	torn := headed(whole, slices.Concat(make([]byte, 40), whole[0][40:]))
	lastByte := headed(whole, with(zeros(), 63, 1))
	for what, second := range map[string][][]byte{"whole": whole, "torn": torn, "its last byte": lastByte, "any": {full(1), full(2), full(3)}} {
		old := slices.Concat(standing(3, 3, text(100, 1)), second)
		wiped, a, b, head := waiting{3, zeros()}, waiting{4, body[0]}, waiting{5, body[1]}, waiting{3, headFor(4, data)}
		headless := put(old, wiped)
		laid := put(headless, a, b)
		wantSteps(t, "an old head: "+what, old, 0, 3, data, []step{
			{old, nil}, {old, []waiting{wiped}}, {headless, nil}, {headless, []waiting{a}}, {headless, []waiting{a, b}},
			{laid, nil}, {laid, []waiting{head}}, {put(laid, head), nil},
		})
	}
}

// P12.2: of no bytes no body is written; the sync ahead of the head comes all the same.
func TestSaveNothingStepByStep(t *testing.T) {
	old := slices.Concat(standing(2, 1, text(9, 1)), empty(2))
	head := waiting{2, headFor(2, nil)}
	wantSteps(t, "no bytes, a head of zeros", old, 0, 2, nil, []step{
		{old, nil}, {old, nil}, {old, []waiting{head}}, {put(old, head), nil},
	})
	old = slices.Concat(standing(2, 1, text(9, 1)), standing(2, 2, text(9, 2)))
	wiped, head := waiting{0, zeros()}, waiting{0, headFor(3, nil)}
	headless := put(old, wiped)
	wantSteps(t, "no bytes, an old head", old, 0, 2, []byte{}, []step{
		{old, nil}, {old, []waiting{wiped}}, {headless, nil}, {headless, nil}, {headless, []waiting{head}}, {put(old, head), nil},
	})
}

// P12.2: one byte of a head that is not 0 is enough for it to be wiped, wherever it stands.
func TestSaveWipesOneByte(t *testing.T) {
	for at := range 64 {
		for _, slot := range []int{0, 1} {
			rows := empty(4)
			rows[0] = with(zeros(), at, 1)
			gen := 0
			if slot == 1 {
				rows, gen = slices.Concat(standing(2, 1, nil), [][]byte{rows[0], zeros()}), 1
			}
			d := loaded(t, rows...)
			s := opened(t, "one byte", d, 0, 2, gen, nil)
			save(t, s, text(9, 1))
			wantCounts(t, fmt.Sprintf("byte %d in slot %d", at, slot), d, 3, 3)
			opened(t, "one byte", d, 0, 2, gen+1, text(9, 1))
		}
	}
}

// P12.2: the head is asked what it tells, not what is safe.
func TestSaveOverWhatWaits(t *testing.T) {
	d := loaded(t, slices.Concat(standing(2, 1, text(9, 1)), standing(2, 2, text(9, 2)))...)
	s := opened(t, "both", d, 0, 2, 2, text(9, 2))
	d.Write(0, zeros())
	save(t, s, text(9, 3))
	wantCounts(t, "wiped already, though it waits", d, 3, 2)
	opened(t, "the new one", again(t, d), 0, 2, 3, text(9, 3))

	d = loaded(t, slices.Concat(empty(2), standing(2, 2, text(9, 2)))...)
	s = opened(t, "one", d, 0, 2, 2, text(9, 2))
	d.Write(0, full(3))
	save(t, s, text(9, 3))
	wantCounts(t, "not wiped, though it is safely", d, 4, 3)
	wantDisk(t, "the new one", d, slices.Concat(standing(2, 3, text(9, 3)), standing(2, 2, text(9, 2)))...)
}

// P12.5: behind each Save of a life Open answers the data, over the disk and over its image, and nothing is pending.
func TestThereAndBack(t *testing.T) {
	d := fresh(t, 12)
	s := opened(t, "a new disk", d, 1, 5, 0, nil)
	for i := range 300 {
		data := text(i*37%257, i)
		save(t, s, data)
		wantNum(t, "Pending", d.Pending(), 0)
		for _, other := range []*disk.Disk{d, again(t, d)} {
			opened(t, fmt.Sprintf("Save %d", i), other, 1, 5, i+1, data)
		}
		d.Crash([]bool{true}, 0, 30)
		opened(t, "a crash behind it", d, 1, 5, i+1, data)
		if i%7 == 0 {
			s = opened(t, "opened anew", d, 1, 5, i+1, data)
		}
	}
}

// P12.5: what others had pending is made safe with it.
func TestSaveSyncsAll(t *testing.T) {
	d := fresh(t, 6)
	s := opened(t, "a new disk", d, 1, 2, 0, nil)
	d.Write(0, full(7))
	d.Write(5, full(8))
	save(t, s, text(3, 1))
	wantDisk(t, "all of it", d, slices.Concat([][]byte{full(7)}, standing(2, 1, text(3, 1)), empty(2), [][]byte{full(8)})...)
}
