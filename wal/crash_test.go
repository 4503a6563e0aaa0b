package wal_test

import (
	"bytes"
	"fmt"
	"math/rand"
	"slices"
	"testing"

	"haulage/api"
	"haulage/disk"
	"haulage/wal"
)

// due is what may stand in a region behind a crash: the safe records and some of the first loose ones, of the generation; and if next is not 0, also no log, or one of that generation without records.
type due struct {
	gen   int
	safe  [][]byte
	loose [][]byte
	next  int
}

// all are the safe records and the loose ones.
func (a due) all() [][]byte { return slices.Concat(a.safe, a.loose) }

// stands is whether records of a generation may be what is found.
func (a due) stands(gen int, records [][]byte) bool {
	if a.next != 0 && gen == a.next {
		return len(records) == 0
	}
	begins := len(records) >= len(a.safe) && len(records) <= len(a.all())
	return gen == a.gen && begins && slices.EqualFunc(records, a.all()[:len(records)], bytes.Equal)
}

// wantDue opens what a crash has left, and answers the log and what is due of it from now on; no log, if none stands and that may be.
func wantDue(t *testing.T, what string, d *disk.Disk, from, n int, a due) (*wal.Log, due) {
	t.Helper()
	l, records, err := wal.Open(d, from, n)
	if err == api.ErrWalForm && a.next != 0 {
		return nil, due{}
	}
	wantErr(t, what+": Open behind a crash", err, api.OK)
	if !a.stands(l.Gen(), records) {
		t.Fatalf("%s: generation %d, %d records %v, due is %v", what, l.Gen(), len(records), records, a)
	}
	wantNum(t, what+": Synced", l.Synced(), len(records))
	wantNum(t, what+": Pending", d.Pending(), 0)
	return l, due{gen: l.Gen(), safe: records}
}

// call is one of a log's, and what it makes of what is due, if it is answered OK and if the power goes within it.
type call struct {
	name string
	do   func(l *wal.Log) api.Errno
	done func(a due) due
	lost func(a due) due
}

func appends(record []byte) call {
	more := func(a due) due {
		a.loose = append(slices.Clone(a.loose), record)
		return a
	}
	return call{fmt.Sprintf("Append of %d", len(record)), func(l *wal.Log) api.Errno { return l.Append(record) }, more, more}
}

func syncs() call {
	done := func(a due) due { return due{gen: a.gen, safe: a.all()} }
	lost := func(a due) due { return a }
	return call{"Sync", func(l *wal.Log) api.Errno { return l.Sync() }, done, lost}
}

func resets(gen int) call {
	done := func(a due) due { return due{gen: gen} }
	lost := func(a due) due {
		a.next = gen
		return a
	}
	return call{fmt.Sprintf("Reset(%d)", gen), func(l *wal.Log) api.Errno { return l.Reset(gen) }, done, lost}
}

// crashes has each way in which the pending writes of a disk may be lost, kept and torn, on a disk of its own.
func crashes(t *testing.T, d *disk.Disk, cuts []int, each func(what string, d *disk.Disk)) {
	t.Helper()
	image, pending := d.Image(), waiting(d)
	for mask := range 1 << len(pending) {
		keep := make([]bool, len(pending))
		for i := range keep {
			keep[i] = mask>>i&1 == 1
		}
		for torn := -1; torn < len(pending); torn++ {
			if torn >= 0 && keep[torn] {
				continue // of the torn one keep is not asked
			}
			for _, cut := range cuts {
				other, _ := disk.Load(image)
				for _, w := range pending {
					other.Write(w.sector, w.data)
				}
				other.Crash(keep, torn, cut)
				each(fmt.Sprintf("keep %v, torn %d, cut %d", keep, torn, cut), other)
				if torn < 0 {
					break
				}
			}
		}
	}
}

// waits is a write that is pending.
type waits struct {
	sector int
	data   []byte
}

// waiting are the pending writes of a disk of the test below, each of another sector. The order of writes to unlike sectors is not seen in a crash.
func waiting(d *disk.Disk) []waits {
	d.Fuse(-1)
	var all []waits
	image := d.Image()
	for i := range d.Sectors() {
		if p, _ := d.Read(i); !bytes.Equal(p, image[64*i:64*i+64]) {
			all = append(all, waits{i, p})
		}
	}
	return all
}

// again opens a disk with the power's end ahead of each of Open's writes and its sync, each crash behind that, and so on with what that leaves, till nothing new comes. seen are the images that were there already.
func again(t *testing.T, what string, d *disk.Disk, from, n int, a due, seen map[string]bool) {
	t.Helper()
	image := d.Image()
	if seen[string(image)] {
		return
	}
	seen[string(image)] = true
	for fuse := 0; ; fuse++ {
		other, _ := disk.Load(image)
		other.Fuse(fuse)
		_, _, err := wal.Open(other, from, n)
		if err != api.ErrDiskPower {
			break
		}
		crashes(t, other, []int{1, 63}, func(how string, left *disk.Disk) {
			again(t, what+"; "+how, left, from, n, a, seen)
		})
	}
	other, _ := disk.Load(image)
	l, then := wantDue(t, what, other, from, n, a)
	if l == nil {
		return
	}
	wantErr(t, what+": Append behind Open", l.Append([]byte{77}), api.OK)
	wantErr(t, what+": Sync behind Open", l.Sync(), api.OK)
	opened(t, what+": what is appended behind Open", other, from, n, append(then.safe, []byte{77})...)
}

// runUntil has calls one behind the other, until the power goes; it answers what is due then.
func runUntil(t *testing.T, what string, l *wal.Log, a due, calls []call) due {
	t.Helper()
	for _, c := range calls {
		switch err := c.do(l); err {
		case api.OK:
			a = c.done(a)
		case api.ErrDiskPower:
			return c.lost(a)
		default:
			t.Fatalf("%s: %s: error %d", what, c.name, err)
		}
	}
	return a
}

// P11.8: the power's end ahead of each write and sync of a row of calls, every crash behind it, then Open with the power's end ahead of each of its writes and its sync, and every crash behind that, on and on.
func TestEveryCrash(t *testing.T) {
	calls := []call{appends(text(3, 1)), syncs(), appends(text(130, 2)), appends(nil), syncs(), resets(5), appends(text(58, 3)), appends(text(57, 4)), syncs(), appends(text(9, 5)), resets(6)}
	ends := 0
	for fuse := range 40 {
		d := loaded(t, slices.Concat([][]byte{full(9)}, slices.Repeat([][]byte{zeros()}, 8), [][]byte{full(9)})...)
		l := made(t, d, 1, 8, 4)
		d.Fuse(fuse)
		what := fmt.Sprintf("fuse %d", fuse)
		a := runUntil(t, what, l, due{gen: 4}, calls)
		if a.gen < 6 {
			ends++
		}
		seen := map[string]bool{}
		crashes(t, d, []int{0, 1, 30, 62, 63}, func(how string, left *disk.Disk) {
			again(t, what+"; "+how, left, 1, 8, a, seen)
		})
		for image := range seen {
			wantBytes(t, what+": ahead of the region", []byte(image)[:64], full(9))
			wantBytes(t, what+": behind the region", []byte(image)[9*64:], full(9))
		}
	}
	wantNum(t, "in how many ways the power went", ends, 31)
}

// P11.8: the power's end within Make: then no log, or the new one.
func TestEveryCrashOfMake(t *testing.T) {
	for fuse := range 12 {
		d := loaded(t, standing(5, 3, text(3, 1), text(58, 2))...)
		d.Fuse(fuse)
		wal.Make(d, 0, 5, 9)
		a := due{gen: 3, safe: [][]byte{text(3, 1), text(58, 2)}, next: 9}
		crashes(t, d, []int{1, 2, 30, 63, 64}, func(how string, left *disk.Disk) {
			again(t, fmt.Sprintf("fuse %d; %s", fuse, how), left, 0, 5, a, map[string]bool{})
		})
	}
}

// someKeep is a row for so many pending writes, or for some more or fewer.
func someKeep(r *rand.Rand, pending int) []bool {
	keep := make([]bool, r.Intn(pending+3))
	often := r.Intn(4)
	for i := range keep {
		keep[i] = r.Intn(4) <= often
	}
	return keep
}

// someCall is one that a log may have.
func someCall(r *rand.Rand, l *wal.Log, mark int) call {
	switch k := r.Intn(12); {
	case k == 0:
		return resets(l.Gen() + 1 + r.Intn(3))
	case k < 5:
		return syncs()
	case l.Room() == 0:
		return resets(l.Gen() + 1)
	}
	n := min(r.Intn(180), 57*l.Room())
	if r.Intn(3) == 0 {
		n = min([]int{0, 56, 57, 58, 114}[r.Intn(5)], 57*l.Room())
	}
	return appends(text(n, mark))
}

// someCrash lets the power go and come again.
func someCrash(r *rand.Rand, d *disk.Disk) {
	pending := d.Pending()
	d.Crash(someKeep(r, pending), r.Intn(pending+2)-1, r.Intn(68)-2)
}

// life is a log that has any calls, crashes and Opens, one behind the other.
func life(t *testing.T, r *rand.Rand) {
	t.Helper()
	size := 2 + r.Intn(9)
	d := fresh(t, size+2)
	l, a, mark := made(t, d, 1, size, 1), due{gen: 1}, 0
	for range 40 {
		d.Fuse(r.Intn(25))
		for err := api.OK; err == api.OK && r.Intn(30) > 0; {
			mark++
			c := someCall(r, l, mark)
			if err = c.do(l); err == api.OK {
				a = c.done(a)
			} else {
				wantErr(t, c.name, err, api.ErrDiskPower)
				a = c.lost(a)
			}
		}
		if r.Intn(3) > 0 {
			someCrash(r, d)
		}
		for r.Intn(3) == 0 {
			d.Fuse(r.Intn(4))
			wal.Open(d, 1, size)
			if r.Intn(3) > 0 {
				someCrash(r, d)
			}
		}
		d.Fuse(-1)
		if l, a = wantDue(t, "a life", d, 1, size, a); l == nil {
			l, a = made(t, d, 1, size, 1), due{gen: 1}
		}
		image := d.Image()
		wantBytes(t, "outside the region", append(image[:64:64], image[64*(size+1):]...), make([]byte, 128))
	}
}

// P11.7, P11.8: many lives.
func TestLives(t *testing.T) {
	r := rand.New(rand.NewSource(118))
	for range 400 {
		life(t, r)
	}
}

// P11.7: Open over the Image behind a Sync brings the same, at each Sync of many lives.
func TestThereAgain(t *testing.T) {
	r := rand.New(rand.NewSource(117))
	for range 200 {
		size := 2 + r.Intn(12)
		d := fresh(t, size+3)
		l, a := made(t, d, 2, size, 1+r.Intn(100)), due{}
		a.gen = l.Gen()
		for mark := range 30 {
			c := someCall(r, l, mark)
			wantErr(t, c.name, c.do(l), api.OK)
			if a = c.done(a); len(a.loose) > 0 {
				continue
			}
			other, err := disk.Load(d.Image())
			wantErr(t, "Load", err, api.OK)
			m := opened(t, "there again", other, 2, size, a.safe...)
			wantLog(t, "there again", m, a.gen, l.Len(), l.Synced(), l.Used(), l.Room())
			wantNum(t, "there again: Synced", m.Synced(), len(a.safe))
			wantBytes(t, "there again: nothing is written", other.Image(), d.Image())
		}
	}
}
