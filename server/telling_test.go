package server_test

import (
	"bytes"
	"fmt"
	"slices"
	"testing"

	"haulage/api"
	"haulage/disk"
	"haulage/engine"
	"haulage/haul"
	"haulage/jump"
	"haulage/mail"
	"haulage/ranks"
	"haulage/server"
)

// telling is the chapter told a second time, over an engine and a haul of its own: requests by DOC.md's 'Requests, once', loads and ways reckoned anew.
type telling struct {
	t      *testing.T
	e      *engine.Engine
	h      *haul.Haul
	number int
	s      api.Setup
	clock  int
	ages   int // of the loads
	loads  []float64
	began  map[int]int // of the shards that have been Offered, and not yet something else than Offered and Committed
	spans  []int
	sketch *ranks.Sketch[int]
	deeds  []api.Deed
}

func tellingOf(t *testing.T, d *disk.Disk, number int, s api.Setup) (*telling, api.Errno) {
	t.Helper()
	e, err := engine.Open(d, number, s)
	if err != 0 {
		return nil, err
	}
	return &telling{t: t, e: e, h: haul.New(e), number: number, s: s, loads: make([]float64, s.Shards), began: map[int]int{}, sketch: ranks.New[int](32)}, 0
}

func (m *telling) ledgers() []api.Ledger {
	var row []api.Ledger
	for shard := range m.s.Shards {
		l, _ := m.e.Ledger(shard)
		row = append(row, l)
	}
	return row
}

// watched has ways begin and end by what a call makes of the ledgers.
func (m *telling) watched(call func()) {
	was := m.ledgers()
	call()
	if m.e.Dead() {
		return
	}
	for shard, l := range m.ledgers() {
		switch from, to := was[shard].Phase, l.Phase; {
		case from != 2 && to == 2:
			m.began[shard] = m.clock
		case from == 2 && to == 1:
			delete(m.began, shard)
		case from == 3 && to == 5:
			if at, ok := m.began[shard]; ok {
				m.spans = append(m.spans, m.clock-at)
				m.sketch.Add(m.clock - at)
			}
			delete(m.began, shard)
		}
	}
}

// letters are what was said, sent.
func (m *telling) letters(said []api.Mail) []api.Letter {
	m.t.Helper()
	return lettersOf(m.t, said...)
}

func (m *telling) move(shard, to int) (letters []api.Letter, err api.Errno) {
	m.watched(func() {
		said, e := m.h.Move(shard, to)
		letters, err = m.letters(said), e
	})
	return letters, err
}

func (m *telling) cancel(shard int) (err api.Errno) {
	m.watched(func() { err = m.h.Cancel(shard) })
	return err
}

func (m *telling) tick() ([]api.Letter, api.Errno) {
	if m.e.Dead() {
		return nil, 180
	}
	m.clock++
	if err := m.e.Tidy(); err != 0 {
		return nil, err
	}
	for ; m.ages < m.clock/16; m.ages++ {
		for i := range m.loads {
			m.loads[i] /= 2
		}
	}
	said, err := m.h.Tick()
	return m.letters(said), err
}

func (m *telling) hear(data []byte) (letters []api.Letter, err api.Errno) {
	if m.e.Dead() {
		return nil, 180
	}
	x, bad := mail.Decode(data)
	switch {
	case bad != 0 || x.To != m.number || x.Kind == 2:
		return nil, 0
	case x.Kind == 1:
		return m.request(x)
	}
	m.watched(func() {
		said, e := m.h.Hear(x)
		letters, err = m.letters(said), e
	})
	return letters, err
}

func (m *telling) request(x api.Mail) ([]api.Letter, api.Errno) {
	isSeek := x.Op.Kind == 5
	if x.Shard >= m.s.Shards || !isSeek && jump.Shard(x.Op.Key, m.s.Shards) != x.Shard {
		return nil, 0
	}
	l := m.ledgers()[x.Shard]
	switch l.Phase {
	case 0, 5:
		return m.letters([]api.Mail{refused(x, 220, l.Peer)}), 0
	case 2, 3, 4:
		return m.letters([]api.Mail{refused(x, 221, l.Peer)}), 0
	}
	a, did, err := shardOf(m.t, m.e.Export(x.Shard)).Do(x.Client, x.Seq, x.Op)
	weight := 1.0
	if did {
		weight = 2
		a, err = m.e.Do(api.Record{Kind: 1, Shard: x.Shard, Client: x.Client, Seq: x.Seq, Op: x.Op})
	}
	switch err {
	case 0:
		m.loads[x.Shard] += weight
		if did {
			m.deeds = append(m.deeds, api.Deed{Shard: x.Shard, Rev: a.At, Client: x.Client, Seq: x.Seq})
		}
		return m.letters([]api.Mail{answered(x, a)}), 0
	case 180:
		return nil, 180
	case 181:
		return m.letters([]api.Mail{refused(x, 181, 0)}), 0
	case 142, 182:
		return m.letters([]api.Mail{refused(x, 182, 0)}), 0
	}
	return nil, 0
}

// span is the one at a rank: exact, while there are few; by the sketch, when there are many.
func (m *telling) span(rank int) (int, api.Errno) {
	if len(m.spans) >= 32 || rank < 1 || rank > len(m.spans) {
		return m.sketch.Query(rank)
	}
	return slices.Sorted(slices.Values(m.spans))[rank-1], 0
}

// pair is a server and a telling, each over a disk of its own, which have the same calls.
type pair struct {
	t       *testing.T
	s       api.Setup
	number  int
	d, twin *disk.Disk
	o       *server.Server
	m       *telling
	seen    counts // when both had the same bytes
	spans   int    // how many there were when both had the same ones
}

// pairOver is one over disks with this image.
func pairOver(t *testing.T, s api.Setup, number int, image []byte) *pair {
	t.Helper()
	p := &pair{t: t, s: s, number: number, d: loaded(t, image), twin: loaded(t, image)}
	wantErr(t, "Open", p.open(), api.OK)
	return p
}

// pairOf is one of a server that knows this of its shards; its engine is of the generation 1.
func pairOf(t *testing.T, number, servers int, row ...known) *pair {
	t.Helper()
	s := setupOf(servers, len(row))
	return pairOver(t, s, number, imageOf(t, s, 1, formOf(t, number, servers, row)))
}

// pairOfNew is one over new disks.
func pairOfNew(t *testing.T, s api.Setup, number int) *pair {
	t.Helper()
	return pairOver(t, s, number, blank(s))
}

// open opens both anew.
func (p *pair) open() api.Errno {
	p.t.Helper()
	o, err := server.Open(p.d, p.number, p.s)
	m, otherErr := tellingOf(p.t, p.twin, p.number, p.s)
	wantErr(p.t, "Open", err, otherErr)
	if err != api.OK {
		if o != nil {
			p.t.Fatal("Open: a server beside an error")
		}
		return err
	}
	p.o, p.m = o, m
	p.seen = counts{}
	p.wantAlike("Open")
	return api.OK
}

// fuse is the same fuse for both disks.
func (p *pair) fuse(n int) {
	p.d.Fuse(n)
	p.twin.Fuse(n)
}

// crash is the same crash of both disks.
func (p *pair) crash(keep []bool, torn, cut int) {
	p.d.Crash(keep, torn, cut)
	p.twin.Crash(keep, torn, cut)
}

// counts are what tells that something was written.
type counts struct {
	writes, syncs, pending int
	dead                   bool
}

func countsOf(d *disk.Disk, dead bool) counts {
	writes, syncs := d.Counts()
	return counts{writes, syncs, d.Pending(), dead}
}

// wantAlike asks for all that a server tells, but for Deeds, and for its disk.
func (p *pair) wantAlike(what string) {
	p.t.Helper()
	wantNum(p.t, what+": Number", p.o.Number(), p.number)
	wantNum(p.t, what+": Clock", p.o.Clock(), p.m.clock)
	wantLoads(p.t, what, p.o, p.m.loads...)
	wantNum(p.t, what+": Spans", p.o.Spans(), len(p.m.spans))
	if len(p.m.spans) < 32 || len(p.m.spans) != p.spans {
		p.wantSpansAlike(what)
	}
	got, wanted := countsOf(p.d, p.o.Dead()), countsOf(p.twin, p.m.e.Dead())
	if got != wanted {
		p.t.Fatalf("%s: the disk: %v, want %v", what, got, wanted)
	}
	if got == p.seen {
		return // nothing was written, so no bytes are others than before
	}
	p.seen = got
	for shard := -1; shard <= p.s.Shards; shard++ {
		l, err := p.o.Ledger(shard)
		wanted, wantedErr := p.m.e.Ledger(shard)
		wantErr(p.t, fmt.Sprintf("%s: Ledger(%d)", what, shard), err, wantedErr)
		if l != wanted {
			p.t.Fatalf("%s: Ledger(%d): %v, want %v", what, shard, l, wanted)
		}
		wantBytes(p.t, fmt.Sprintf("%s: Export(%d)", what, shard), p.o.Export(shard), p.m.e.Export(shard))
	}
	wantBytes(p.t, what+": Bytes", p.o.Bytes(), p.m.e.Bytes())
	wantBytes(p.t, what+": the disk", p.d.Image(), p.twin.Image())
}

// wantSpansAlike asks for the span at each rank, one below and one above.
func (p *pair) wantSpansAlike(what string) {
	p.t.Helper()
	p.spans = len(p.m.spans)
	for rank := range p.spans + 2 {
		n, err := p.o.Span(rank)
		wanted, wantedErr := p.m.span(rank)
		wantErr(p.t, fmt.Sprintf("%s: Span(%d)", what, rank), err, wantedErr)
		wantNum(p.t, fmt.Sprintf("%s: Span(%d)", what, rank), n, wanted)
	}
}

// wantSame asks that both have answered the same.
func (p *pair) wantSame(what string, got []api.Letter, err api.Errno, wanted []api.Letter, wantedErr api.Errno) ([]api.Letter, api.Errno) {
	p.t.Helper()
	wantErr(p.t, what, err, wantedErr)
	if !slices.EqualFunc(got, wanted, isSame) {
		wantText(p.t, what, told(got), told(wanted))
	}
	p.wantAlike(what)
	return got, err
}

func isSame(a, b api.Letter) bool {
	return a.Number == b.Number && a.From == b.From && a.To == b.To && bytes.Equal(a.Data, b.Data)
}

func (p *pair) move(shard, to int) ([]api.Letter, api.Errno) {
	p.t.Helper()
	got, err := p.o.Move(shard, to)
	wanted, wantedErr := p.m.move(shard, to)
	return p.wantSame(fmt.Sprintf("Move(%d, %d)", shard, to), got, err, wanted, wantedErr)
}

func (p *pair) cancel(shard int) api.Errno {
	p.t.Helper()
	err := p.o.Cancel(shard)
	p.wantSame(fmt.Sprintf("Cancel(%d)", shard), nil, err, nil, p.m.cancel(shard))
	return err
}

func (p *pair) tick() ([]api.Letter, api.Errno) {
	p.t.Helper()
	got, err := p.o.Tick()
	wanted, wantedErr := p.m.tick()
	return p.wantSame("Tick", got, err, wanted, wantedErr)
}

func (p *pair) hearData(what string, data []byte) ([]api.Letter, api.Errno) {
	p.t.Helper()
	got, err := p.o.Hear(data)
	wanted, wantedErr := p.m.hear(data)
	return p.wantSame(what, got, err, wanted, wantedErr)
}

func (p *pair) hear(m api.Mail) ([]api.Letter, api.Errno) {
	p.t.Helper()
	return p.hearData("Hear of "+short(m), form(p.t, m))
}

// deeds asks both.
func (p *pair) deeds() []api.Deed {
	p.t.Helper()
	got := p.o.Deeds()
	wantText(p.t, "Deeds", toldDeeds(got), toldDeeds(p.m.deeds))
	p.m.deeds = nil
	return got
}

// wantHeard asks for what a server says because of a message.
func (p *pair) wantHeard(m api.Mail, wanted ...api.Mail) {
	p.t.Helper()
	got, err := p.hear(m)
	wantSent(p.t, "Hear of "+short(m), got, err, wanted...)
}
