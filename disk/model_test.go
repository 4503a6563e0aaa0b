package disk_test

import (
	"fmt"
	"math"
	"math/rand"
	"strings"
	"testing"

	"haulage/api"
	"haulage/disk"
)

// waiting is a pending write of the model.
type waiting struct {
	sector int
	text   string
}

// model is a second telling of the chapter: sectors are texts, and what is told is made anew each time.
type model struct {
	safe    []string
	pending []waiting
	fuse    *int
	writes  int
	syncs   int
}

func (m *model) off() bool { return m.fuse != nil && *m.fuse == 0 }

func (m *model) has(sector int) bool { return 0 <= sector && sector < len(m.safe) }

func (m *model) setFuse(n int) {
	m.fuse = nil
	if n >= 0 {
		m.fuse = &n
	}
}

func (m *model) burn() {
	if m.fuse != nil {
		m.setFuse(*m.fuse - 1)
	}
}

// told are the sectors when all that waits is carried out.
func (m *model) told() []string {
	all := append([]string(nil), m.safe...)
	for _, w := range m.pending {
		all[w.sector] = w.text
	}
	return all
}

func (m *model) write(sector int, data []byte) api.Errno {
	switch {
	case m.off():
		return api.ErrDiskPower
	case !m.has(sector):
		return api.ErrDiskSector
	case len(data) != 64:
		return api.ErrDiskSize
	}
	m.pending = append(m.pending, waiting{sector, string(data)})
	m.writes++
	m.burn()
	return api.OK
}

func (m *model) sync() api.Errno {
	if m.off() {
		return api.ErrDiskPower
	}
	m.safe, m.pending = m.told(), nil
	m.syncs++
	m.burn()
	return api.OK
}

func (m *model) read(sector int) (string, api.Errno) {
	switch {
	case m.off():
		return "", api.ErrDiskPower
	case !m.has(sector):
		return "", api.ErrDiskSector
	}
	return m.told()[sector], api.OK
}

func (m *model) crash(keep []bool, torn, cut int) {
	kept := map[int]bool{}
	for i, k := range keep {
		kept[i] = k
	}
	for i, w := range m.pending {
		length := 0
		switch {
		case i == torn && cut > 64:
			length = 64
		case i == torn && cut > 0:
			length = cut
		case i != torn && kept[i]:
			length = 64
		}
		m.safe[w.sector] = w.text[:length] + m.safe[w.sector][length:]
	}
	m.pending, m.fuse = nil, nil
}

// some is one of these.
func some(r *rand.Rand, all ...int) int { return all[r.Intn(len(all))] }

// someData is a sector of any bytes, or at times one of a wrong length.
func someData(r *rand.Rand) []byte {
	n := 64
	if r.Intn(12) == 0 {
		n = some(r, wrongSizes()...)
	}
	p := make([]byte, n)
	r.Read(p)
	return p
}

// someSector is one that the disk has, or at times one that it has not.
func someSector(r *rand.Rand, sectors int) int {
	if r.Intn(12) == 0 {
		return some(r, wrongSectors(sectors)...)
	}
	return r.Intn(sectors)
}

// someKeep is a row of up to as many as there are pending writes, or some more.
func someKeep(r *rand.Rand, pending int) []bool {
	keep := make([]bool, r.Intn(pending+3))
	for i := range keep {
		keep[i] = r.Intn(2) == 0
	}
	return keep
}

// someCrash is a torn one and a cut of any kind.
func someCrash(r *rand.Rand, pending int) (at, cut int) {
	at = r.Intn(pending+3) - 1
	if r.Intn(12) == 0 {
		at = some(r, math.MinInt, math.MaxInt, pending, pending+64)
	}
	cut = r.Intn(70) - 3
	if r.Intn(12) == 0 {
		cut = some(r, math.MinInt, math.MaxInt, -1, 0, 64, 65)
	}
	return at, cut
}

// step has one call of any kind at both, and compares what it answers.
func step(t *testing.T, r *rand.Rand, d *disk.Disk, m *model) {
	t.Helper()
	switch r.Intn(16) {
	case 0, 1:
		wantErr(t, "Sync", d.Sync(), m.sync())
	case 2:
		n := some(r, -1, -5, 0, 1, 2, 3, 8, 20)
		d.Fuse(n)
		m.setFuse(n)
	case 3:
		keep := someKeep(r, len(m.pending))
		at, cut := someCrash(r, len(m.pending))
		d.Crash(keep, at, cut)
		m.crash(keep, at, cut)
	default:
		sector, data := someSector(r, len(m.safe)), someData(r)
		wantErr(t, fmt.Sprintf("Write(%d, %d bytes)", sector, len(data)), d.Write(sector, data), m.write(sector, data))
	}
}

// wantModel compares all that is told.
func wantModel(t *testing.T, d *disk.Disk, m *model) {
	t.Helper()
	wantNum(t, "Sectors", d.Sectors(), len(m.safe))
	wantNum(t, "Pending", d.Pending(), len(m.pending))
	wantCounts(t, "model", d, m.writes, m.syncs)
	wantBytes(t, "Image", d.Image(), []byte(strings.Join(m.safe, "")))
	for sector := -2; sector < len(m.safe)+2; sector++ {
		text, wanted := m.read(sector)
		p, err := d.Read(sector)
		wantErr(t, fmt.Sprintf("Read(%d)", sector), err, wanted)
		wantBytes(t, fmt.Sprintf("Read(%d)", sector), p, []byte(text))
	}
}

// both are a disk and its model, new ones or loaded ones.
func both(t *testing.T, r *rand.Rand) (*disk.Disk, *model) {
	t.Helper()
	sectors := 1 + r.Intn(5)
	if r.Intn(2) == 0 {
		m := &model{}
		for range sectors {
			m.safe = append(m.safe, string(full(0)))
		}
		return fresh(t, sectors), m
	}
	image := make([]byte, 64*sectors)
	r.Read(image)
	m := &model{}
	for i := range sectors {
		m.safe = append(m.safe, string(image[64*i:64*i+64]))
	}
	return loaded(t, image), m
}

// P8.1 to P8.7: rows of calls of all kinds come out as the chapter's words say, refused ones among them.
func TestModel(t *testing.T) {
	r := rand.New(rand.NewSource(8))
	for range 400 {
		d, m := both(t, r)
		for range 80 {
			step(t, r, d, m)
			wantModel(t, d, m)
		}
	}
}

// P8.7: behind a Sync that was answered OK, Image is what Read tells, and any Crash leaves it.
func TestSyncedStays(t *testing.T) {
	r := rand.New(rand.NewSource(9))
	for range 500 {
		d, m := both(t, r)
		for range r.Intn(60) {
			step(t, r, d, m)
		}
		d.Fuse(some(r, -1, 1, 5))
		var told [][]byte
		for sector := range d.Sectors() {
			p, err := d.Read(sector)
			wantErr(t, "Read", err, api.OK)
			told = append(told, p)
		}
		sync(t, d)
		wantImage(t, "Sync", d, told...)
		at, cut := someCrash(r, 3)
		d.Crash([]bool{true, true, true}, at, cut)
		wantSectors(t, "Crash", d, told...)
	}
}

// comes says whether a sector may be there behind a Crash: one of the whole ones, or the beginning of one that waited with the rest of a whole one.
func comes(sector, was string, waited []string) bool {
	whole := append([]string{was}, waited...)
	for _, text := range whole {
		if sector == text {
			return true
		}
	}
	for _, first := range waited {
		for _, rest := range whole {
			for cut := range 65 {
				if sector == first[:cut]+rest[cut:] {
					return true
				}
			}
		}
	}
	return false
}

// P8.7: behind any Crash each sector is what was safe, or what waited, or begins as such a one and goes on as one of these.
func TestWhatACrashLeaves(t *testing.T) {
	r := rand.New(rand.NewSource(10))
	for range 500 {
		d, m := both(t, r)
		for range r.Intn(40) {
			step(t, r, d, m)
		}
		waited := make([][]string, len(m.safe))
		for _, w := range m.pending {
			waited[w.sector] = append(waited[w.sector], w.text)
		}
		was := d.Image()
		at, cut := someCrash(r, len(m.pending))
		d.Crash(someKeep(r, len(m.pending)), at, cut)
		image := d.Image()
		for i, texts := range waited {
			from, to := 64*i, 64*i+64
			if !comes(string(image[from:to]), string(was[from:to]), texts) {
				t.Fatalf("sector %d: %v, was %v, waiting %d", i, image[from:to], was[from:to], len(texts))
			}
		}
	}
}
