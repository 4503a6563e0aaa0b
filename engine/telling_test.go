package engine_test

import (
	"fmt"
	"slices"
	"testing"

	"haulage/api"
	"haulage/disk"
	"haulage/engine"
	"haulage/record"
	"haulage/state"
)

// telling is an engine told a second time, by the chapter's words, over a disk of its own: each write and sync is reckoned ahead, as a row of steps.
type telling struct {
	disk  *disk.Disk
	setup api.Setup
	gen   int
	used  int
	now   *state.State // nil: it is dead
}

// step is a write, or a sync, if there is no data.
type step struct {
	sector int
	data   []byte
}

// carryOut has steps done up to the first that the disk refuses.
func carryOut(d *disk.Disk, steps []step) api.Errno {
	for _, s := range steps {
		err := api.OK
		if s.data == nil {
			err = d.Sync()
		} else {
			err = d.Write(s.sector, s.data)
		}
		if err != api.OK {
			return err
		}
	}
	return api.OK
}

// wipes are writes of zeros from one sector on up to another, where there are none.
func wipes(rows [][]byte, from, to int) []step {
	var all []step
	for i := from; i < to; i++ {
		if !isZero(rows[i]) {
			all = append(all, step{i, zeros()})
		}
	}
	return all
}

// laid are the writes of sectors, one behind the other.
func laid(from int, rows [][]byte) []step {
	var all []step
	for i, p := range rows {
		all = append(all, step{from + i, p})
	}
	return all
}

// regionAt is where the log of a generation stands, slotAt where its snapshot does.
func (m *telling) regionAt(gen int) int {
	if gen%2 == 1 {
		return 0
	}
	return m.setup.Layout.Log
}

func (m *telling) slotAt(gen int) int {
	if gen%2 == 1 {
		return 2 * m.setup.Layout.Log
	}
	return 2*m.setup.Layout.Log + m.setup.Layout.Shot
}

// checkpointSteps: chapter 11's Make, then chapter 12's Save.
func (m *telling) checkpointSteps(rows [][]byte, gen int, data []byte) []step {
	from, slot := m.regionAt(gen), m.slotAt(gen)
	all := append(wipes(rows, from, from+1), step{})
	all = append(append(all, wipes(rows, from+1, from+m.setup.Layout.Log)...), step{})
	all = append(all, step{from, logHead(gen)}, step{})
	if !isZero(rows[slot]) {
		all = append(all, step{slot, zeros()}, step{})
	}
	all = append(append(all, laid(slot+1, shotBody(data))...), step{})
	return append(all, step{slot, shotHead(gen, len(data), sumOf(data))}, step{})
}

func (m *telling) checkpoint() api.Errno {
	rows, err := readAll(m.disk)
	if err != api.OK {
		return err
	}
	err = carryOut(m.disk, m.checkpointSteps(rows, m.gen+1, m.now.Bytes()))
	if err == api.OK {
		m.gen, m.used = m.gen+1, 1
	}
	return err
}

// mayBeOpened says whether numbers are within the bounds of P18.1.
func mayBeOpened(sectors, server int, s api.Setup) bool {
	for _, b := range [][3]int{{1, s.Servers, 8}, {0, server, s.Servers - 1}, {1, s.Shards, 64}, {24, s.Layout.Log, 4096}, {64, s.Layout.Shot, 16384}} {
		if b[1] < b[0] || b[1] > b[2] {
			return false
		}
	}
	return sectors >= sectorsOf(s)
}

// tellOpen is Open.
func tellOpen(d *disk.Disk, server int, s api.Setup) (*telling, api.Errno) {
	if d == nil {
		return nil, api.ErrNil
	}
	if !mayBeOpened(d.Sectors(), server, s) {
		return nil, api.ErrArg
	}
	rows, err := readAll(d)
	if err != api.OK {
		return nil, err
	}
	m := &telling{disk: d, setup: s}
	gen, data := newestIn(rows[2*s.Layout.Log : sectorsOf(s)])
	if gen == 0 {
		m.now, _ = state.New(server, s.Servers, s.Shards)
		err = m.checkpoint()
	} else {
		m.gen = gen
		err = m.recover(rows, data, server)
	}
	if err != api.OK {
		return nil, err
	}
	return m, api.OK
}

func (m *telling) recover(rows [][]byte, data []byte, server int) api.Errno {
	now, why := state.Read(data)
	if why != api.OK || now.Server() != server || now.Servers() != m.setup.Servers || now.Shards() != m.setup.Shards {
		return api.ErrEngDisk
	}
	from := m.regionAt(m.gen)
	end := from + m.setup.Layout.Log
	gen, forms, used, ok := logIn(rows[from:end])
	if !ok {
		return api.ErrEngDisk
	}
	steps := wipes(rows, from+used, end)
	if len(steps) > 0 || m.disk.Pending() > 0 {
		steps = append(steps, step{})
	}
	if err := carryOut(m.disk, steps); err != api.OK {
		return err
	}
	for _, p := range forms {
		r, unread := record.Decode(p)
		_, refused := now.Apply(r)
		if unread != api.OK || refused != api.OK || len(now.Bytes()) > mostOf(m.setup) {
			return api.ErrEngDisk
		}
	}
	m.now, m.used = now, used
	if gen != m.gen {
		return api.ErrEngDisk
	}
	return api.OK
}

// do is Do.
func (m *telling) do(r api.Record) (api.Answer, api.Errno) {
	if m.now == nil {
		return api.Answer{}, api.ErrEngDead
	}
	form, err := record.Encode(r)
	if err != api.OK {
		return api.Answer{}, err
	}
	next, _ := state.Read(m.now.Bytes())
	answer, err := next.Apply(r)
	if err != api.OK {
		return api.Answer{}, err
	}
	if len(next.Bytes()) > mostOf(m.setup) {
		return api.Answer{}, api.ErrDiskFull
	}
	rows := pieces(form)
	if len(rows) > m.setup.Layout.Log-m.used {
		if r.Kind == api.RecWrite || len(rows) > m.setup.Layout.Log-1 || m.gen == maxTime {
			return api.Answer{}, api.ErrLogFull
		}
		if m.checkpoint() != api.OK {
			m.now = nil
			return api.Answer{}, api.ErrEngDead
		}
	}
	if carryOut(m.disk, laid(m.regionAt(m.gen)+m.used, rows)) != api.OK {
		m.now = nil
		return api.Answer{}, api.ErrEngDead
	}
	m.used += len(rows)
	if m.disk.Sync() != api.OK {
		m.now = nil
		return api.Answer{}, api.ErrEngDead
	}
	m.now = next
	return answer, api.OK
}

// tidy is Tidy.
func (m *telling) tidy() api.Errno {
	if m.now == nil {
		return api.ErrEngDead
	}
	if 2*m.used > m.setup.Layout.Log && m.gen < maxTime && m.checkpoint() != api.OK {
		m.now = nil
		return api.ErrEngDead
	}
	return api.OK
}

// tale is what the engine that is told of tells.
func (m *telling) tale() string {
	if m.now == nil {
		return deadTale(m.gen, m.used)
	}
	return stateTale(m.now, m.gen, m.used)
}

// pair is an engine and its telling, on disks that are alike.
type pair struct {
	e      *engine.Engine
	d      *disk.Disk
	m      *telling
	server int
	setup  api.Setup
}

// openPair opens both over an image, with power for so many writes and syncs (or all, if it is below 0), and asks for the same error; no pair, if there is one.
func openPair(t *testing.T, what string, image []byte, server int, s api.Setup, fuse int) (*pair, api.Errno) {
	t.Helper()
	d, twin := loaded(t, image), loaded(t, image)
	d.Fuse(fuse)
	twin.Fuse(fuse)
	m, wanted := tellOpen(twin, server, s)
	e, err := engine.Open(d, server, s)
	wantErr(t, what+": Open", err, wanted)
	wantBool(t, what+": an engine", e != nil, wanted == api.OK)
	wantTwins(t, what+": Open", d, twin)
	if wanted != api.OK {
		return nil, wanted
	}
	p := &pair{e, d, m, server, s}
	wantText(t, what+": Open", tale(e), m.tale())
	return p, api.OK
}

// wantTwins asks that two disks have had the same writes and syncs so far.
func wantTwins(t *testing.T, what string, d, twin *disk.Disk) {
	t.Helper()
	w, s := d.Counts()
	writes, syncs := twin.Counts()
	wantText(t, what+": writes, syncs, pending", fmt.Sprint(w, s, d.Pending()), fmt.Sprint(writes, syncs, twin.Pending()))
	wantBytes(t, what+": Image", d.Image(), twin.Image())
}

// do asks both for the same answer, and asks that what is told and the disks are alike then.
func (p *pair) do(t *testing.T, what string, r api.Record) api.Errno {
	t.Helper()
	what += ": Do of " + short(r)
	wanted, why := p.m.do(r)
	a, err := p.e.Do(r)
	wantErr(t, what, err, why)
	wantAnswer(t, what, a, wanted)
	p.wantAlike(t, what)
	return err
}

func (p *pair) tidy(t *testing.T, what string) api.Errno {
	t.Helper()
	why := p.m.tidy()
	err := p.e.Tidy()
	wantErr(t, what+": Tidy", err, why)
	p.wantAlike(t, what+": Tidy")
	return err
}

func (p *pair) wantAlike(t *testing.T, what string) {
	t.Helper()
	wantTwins(t, what, p.d, p.m.disk)
	wantText(t, what, tale(p.e), p.m.tale())
}

// crash is one on both disks, which must be alike then too.
func (p *pair) crash(t *testing.T, what string, keep []bool, torn, cut int) []byte {
	t.Helper()
	p.d.Crash(keep, torn, cut)
	p.m.disk.Crash(slices.Clone(keep), torn, cut)
	wantTwins(t, what+": behind a crash", p.d, p.m.disk)
	return p.d.Image()
}
