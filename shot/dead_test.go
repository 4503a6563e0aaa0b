package shot_test

import (
	"fmt"
	"slices"
	"testing"

	"haulage/api"
	"haulage/disk"
	"haulage/shot"
)

// wantDead asks each call of an object that is out of use: the power may be there again, nothing is done.
func wantDead(t *testing.T, what string, d *disk.Disk, s *shot.Shots, gen, most int) {
	t.Helper()
	wantUntouched(t, what, d, func() {
		for range 2 {
			for _, n := range []int{0, 1, 64, most, most + 1, most + 100000} {
				wantErr(t, fmt.Sprintf("%s: Save of %d bytes", what, n), s.Save(text(n, 1)), api.ErrDiskPower)
			}
			wantErr(t, what+": Save(nil)", s.Save(nil), api.ErrDiskPower)
			wantShots(t, what, s, gen, most)
		}
	})
}

// P12.2: a Save that meets the disk's error is the object's last, wherever it met it and whatever becomes of the power; what it tells stays what it told.
func TestDead(t *testing.T) {
	for fuse := range 7 {
		for _, back := range []string{"stays off", "comes again", "crash"} {
			what := fmt.Sprintf("fuse %d, the power %s", fuse, back)
			d := loaded(t, slices.Concat(standing(3, 5, text(70, 1)), standing(3, 4, text(128, 2)))...)
			s := opened(t, what, d, 0, 3, 5, text(70, 1))
			d.Fuse(fuse)
			wantErr(t, what, s.Save(text(100, 3)), api.ErrDiskPower)
			if back == "comes again" {
				d.Fuse(-1)
			} else if back == "crash" {
				d.Crash([]bool{true, true}, -1, 0)
			}
			wantDead(t, what, d, s, 5, 128)
		}
	}
	d := loaded(t, slices.Concat(standing(3, 5, text(70, 1)), standing(3, 4, text(128, 2)))...)
	s := opened(t, "enough power", d, 0, 3, 5, text(70, 1))
	d.Fuse(7)
	wantErr(t, "enough power", s.Save(text(100, 3)), api.OK)
	d.Fuse(-1)
	save(t, s, text(101, 4))
	opened(t, "it lives", d, 0, 3, 7, text(101, 4))
}

// P12.2: one out of use with the last generation but one, so that its own Save would have been the last.
func TestDeadAtTheEnd(t *testing.T) {
	d := loaded(t, slices.Concat(standing(2, maxTime-1, text(3, 1)), empty(2))...)
	s := opened(t, "one is left", d, 0, 2, maxTime-1, text(3, 1))
	d.Fuse(3)
	wantErr(t, "its sync is cut off", s.Save(text(5, 2)), api.ErrDiskPower)
	d.Fuse(-1)
	wantDead(t, "at the end", d, s, maxTime-1, 64)
	last := opened(t, "the head is there", d, 0, 2, maxTime, text(5, 2))
	wantErr(t, "the end", last.Save(nil), api.ErrShotEnd)
}

// P12.2, P0.2: what is refused without the disk being asked is told as ever, and the object goes on when the power is there again.
func TestRefusedWithoutPower(t *testing.T) {
	d := fresh(t, 6)
	s := opened(t, "a new disk", d, 0, 3, 0, nil)
	d.Fuse(0)
	for _, n := range []int{129, 130, 1000} {
		wantErr(t, "too much without power", s.Save(text(n, 1)), api.ErrShotRoom)
	}
	wantShots(t, "no power", s, 0, 128)
	d.Fuse(-1)
	save(t, s, text(128, 1))
	opened(t, "it lives", d, 0, 3, 1, text(128, 1))
	d.Fuse(0)
	wantErr(t, "no power", s.Save(nil), api.ErrDiskPower)
	wantDead(t, "no power", d, s, 1, 128)
	d.Fuse(-1)
	wantDead(t, "the power is there again", d, s, 1, 128)
}

// P12.2: an object that has not met the error is not out of use: another one of the same slots, and one that Open makes anew.
func TestOneDeadAlone(t *testing.T) {
	d := fresh(t, 6)
	a, b := opened(t, "the one", d, 0, 3, 0, nil), opened(t, "the other", d, 0, 3, 0, nil)
	d.Fuse(0)
	wantErr(t, "the one", a.Save(text(3, 1)), api.ErrDiskPower)
	d.Fuse(-1)
	save(t, b, text(3, 2))
	wantDead(t, "the one", d, a, 0, 128)
	c := opened(t, "a third", d, 0, 3, 1, text(3, 2))
	save(t, c, text(4, 3))
	wantDead(t, "the one", d, a, 0, 128)
	opened(t, "what stands", d, 0, 3, 2, text(4, 3))
}

// P12.1, P12.2: what a Save that was cut off has left does not hinder the next object: the power comes again without a crash.
func TestSaveBehindADeadOne(t *testing.T) {
	for fuse := range 9 {
		what := fmt.Sprintf("fuse %d", fuse)
		d := loaded(t, slices.Concat(standing(4, 5, text(70, 1)), standing(4, 4, text(128, 2)))...)
		s := opened(t, what, d, 0, 4, 5, text(70, 1))
		d.Fuse(fuse)
		s.Save(text(130, 3))
		d.Fuse(-1)
		gen, data := 5, text(70, 1)
		if fuse > 6 {
			gen, data = 6, text(130, 3)
		}
		next := opened(t, what, d, 0, 4, gen, data)
		save(t, next, text(150, 4))
		wantNum(t, what+": Pending", d.Pending(), 0)
		opened(t, what, again(t, d), 0, 4, gen+1, text(150, 4))
	}
}
