package haul_test

import (
	"fmt"
	"testing"

	"haulage/api"
	"haulage/disk"
	"haulage/engine"
	"haulage/haul"
	"haulage/shard"
)

// telling is the chapter told a second time. It has an engine of its own, to which it hands the records that the words call for.
type telling struct {
	e      *engine.Engine
	server int
	s      api.Setup
	ticks  [maxShards]int // ticks that a shard has met with something to say, since it began anew
}

// calls is what 'The handshake, once' says of a message at a ledger: a record, and what is sent back, by their numbers.
func calls(l api.Ledger, kind, epoch, from int) (record, reply int) {
	const absent, owned, offered, committed, installed, released = 0, 1, 2, 3, 4, 5
	phase, ahead, behind := l.Phase, epoch > l.Epoch, epoch < l.Epoch
	fromPeer := epoch == l.Epoch && from == l.Peer
	switch {
	case kind == 3 && (phase == absent || phase == released || phase == installed) && ahead && epoch < maxEpoch:
		return 4, 4
	case kind == 3 && phase == installed && fromPeer:
		return 0, 4
	case kind == 4 && phase == offered && fromPeer:
		return 5, 5
	case kind == 4 && phase == committed && fromPeer:
		return 0, 5
	case kind == 4 && behind:
		return 0, 7
	case kind == 5 && phase == installed && fromPeer:
		return 6, 6
	case kind == 5 && phase == installed && epoch == l.Epoch:
		return 0, 0
	case kind == 5 && !ahead:
		return 0, 6
	case kind == 6 && phase == committed && fromPeer:
		return 7, 0
	case kind == 7 && phase == installed && fromPeer:
		return 8, 0
	case kind == 8 && phase == offered && fromPeer:
		return 3, 0
	}
	return 0, 0
}

// nagOf is what is said of a shard on a tick.
func nagOf(l api.Ledger) int { return []int{0, 0, 3, 5, 4, 0}[l.Phase] }

// isSpoken says whether something is said at a shard's so-manieth tick: waits of 1, 2, 4, 8, 8, .. end there.
func isSpoken(tick int) bool { return tick == 1 || tick == 3 || tick%8 == 7 }

// left is how many ticks there are to the next saying.
func (m *telling) left(shard int) int {
	if shard < 0 || shard >= m.s.Shards {
		return 0
	}
	for n := 1; ; n++ {
		if isSpoken(m.ticks[shard] + n) {
			return n
		}
	}
}

// says is a message of a kind about a shard.
func (m *telling) says(kind, shard, to, epoch int) api.Mail {
	said := api.Mail{Kind: kind, From: m.server, To: to, Shard: shard, Epoch: epoch}
	if kind == 3 {
		said.Root, said.Copy = m.e.Root(shard), m.e.Export(shard)
	}
	return said
}

func (m *telling) ledger(shard int) api.Ledger {
	l, _ := m.e.Ledger(shard)
	return l
}

// does has the engine do a record, with which the shard begins anew.
func (m *telling) does(r api.Record) api.Errno {
	_, err := m.e.Do(r)
	if err == 0 {
		m.ticks[r.Shard] = 0
	}
	return err
}

func (m *telling) move(shard, to int) ([]api.Mail, api.Errno) {
	if err := m.does(api.Record{Kind: 2, Shard: shard, Peer: to}); err != 0 {
		return nil, err
	}
	l := m.ledger(shard)
	return []api.Mail{m.says(3, shard, l.Peer, l.Epoch)}, 0
}

func (m *telling) cancel(shard int) api.Errno {
	return m.does(api.Record{Kind: 3, Shard: shard})
}

// isForIt says whether a message is sound, one of the handshake, and to this server, from another one, of a shard.
func (m *telling) isForIt(x api.Mail) bool {
	lists := len(x.Op.Key) + len(x.Op.Value) + len(x.Answer.Key) + len(x.Answer.Value)
	numbers := [...]int{x.Client, x.Seq, int(x.Verdict), x.Hint, x.Op.Kind, x.Op.Rev, x.Answer.Rev, x.Answer.At}
	blank := lists == 0 && numbers == [8]int{} && !x.Answer.Done
	carries := x.Kind == 3 && len(x.Copy) <= maxCopy || x.Kind >= 4 && x.Kind <= 8 && x.Root == 0 && len(x.Copy) == 0
	return blank && carries && x.To == m.server && x.From != m.server && x.From >= 0 && x.From < m.s.Servers &&
		x.Shard >= 0 && x.Shard < m.s.Shards && x.Epoch >= 1 && x.Epoch <= maxEpoch
}

func (m *telling) hear(x api.Mail) ([]api.Mail, api.Errno) {
	if m.e.Dead() {
		return nil, 180
	}
	if !m.isForIt(x) {
		return nil, 0
	}
	record, reply := calls(m.ledger(x.Shard), x.Kind, x.Epoch, x.From)
	if record != 0 {
		r := api.Record{Kind: record, Shard: x.Shard}
		if record == 4 {
			s, err := shard.Import(x.Copy)
			if err != 0 || s.Root() != x.Root {
				return nil, 0
			}
			r.Epoch, r.Peer, r.Copy = x.Epoch, x.From, x.Copy
		}
		switch err := m.does(r); {
		case err == 180:
			return nil, 180
		case record == 4 && (err == 181 || err == 182):
			reply = 8
		case err != 0:
			return nil, 0
		}
	}
	if reply == 0 {
		return nil, 0
	}
	return []api.Mail{m.says(reply, x.Shard, x.From, x.Epoch)}, 0
}

func (m *telling) tick() ([]api.Mail, api.Errno) {
	if m.e.Dead() {
		return nil, 180
	}
	var all []api.Mail
	for shard := range m.s.Shards {
		l := m.ledger(shard)
		if nagOf(l) == 0 {
			continue
		}
		m.ticks[shard]++
		if isSpoken(m.ticks[shard]) {
			all = append(all, m.says(nagOf(l), shard, l.Peer, l.Epoch))
		}
	}
	return all, 0
}

// pair is a Haul and a telling, each over an engine and a disk of its own, which have the same calls.
type pair struct {
	t       *testing.T
	s       api.Setup
	server  int
	d, twin *disk.Disk
	e       *engine.Engine
	h       *haul.Haul
	m       *telling
	seen    counts // when both had the same bytes
}

// pairOver is one over disks with this image.
func pairOver(t *testing.T, s api.Setup, server int, image []byte) *pair {
	t.Helper()
	p := &pair{t: t, s: s, server: server, d: loaded(t, image), twin: loaded(t, image)}
	wantErr(t, "Open", p.open(), api.OK)
	return p
}

// pairOf is one of a server that knows this of its shards; its engine is of the generation 1.
func pairOf(t *testing.T, server, servers int, row ...known) *pair {
	t.Helper()
	s := setupOf(servers, len(row))
	return pairOver(t, s, server, imageOf(t, s, 1, formOf(t, server, servers, row)))
}

// pairOfNew is one over new disks.
func pairOfNew(t *testing.T, s api.Setup, server int) *pair {
	t.Helper()
	return pairOver(t, s, server, make([]byte, 64*2*(s.Layout.Log+s.Layout.Shot)))
}

// open opens both engines anew, with a new Haul and a new telling.
func (p *pair) open() api.Errno {
	p.t.Helper()
	e, err := engine.Open(p.d, p.server, p.s)
	other, otherErr := engine.Open(p.twin, p.server, p.s)
	wantErr(p.t, "Open of the twin", otherErr, err)
	if err != api.OK {
		return err
	}
	p.e, p.h = e, over(p.t, e)
	p.m = &telling{e: other, server: p.server, s: p.s}
	p.seen = counts{}
	p.wantAlike("Open")
	return api.OK
}

// fuse is the same fuse for both disks.
func (p *pair) fuse(n int) {
	p.d.Fuse(n)
	p.twin.Fuse(n)
}

// crash is the same crash of both disks.
func (p *pair) crash(keep []bool, torn, cut int) {
	p.d.Crash(keep, torn, cut)
	p.twin.Crash(keep, torn, cut)
}

// wantAlike asks for all that a Haul tells, and for what its engine and its disk have.
func (p *pair) wantAlike(what string) {
	p.t.Helper()
	for shard := -1; shard <= p.s.Shards; shard++ {
		if got, wanted := p.h.Left(shard), p.m.left(shard); got != wanted {
			p.t.Fatalf("%s: Left(%d): %d, want %d", what, shard, got, wanted)
		}
	}
	got, wanted := countsOf(p.e, p.d), countsOf(p.m.e, p.twin)
	if got != wanted {
		p.t.Fatalf("%s: the engine and its disk: %v, want %v", what, got, wanted)
	}
	if got == p.seen {
		return // nothing was written, so no bytes are others than before
	}
	p.seen = got
	wantBytes(p.t, what+": the state", p.e.Bytes(), p.m.e.Bytes())
	wantBytes(p.t, what+": the disk", p.d.Image(), p.twin.Image())
}

// counts are what an engine and its disk tell besides their bytes.
type counts struct {
	writes, syncs, pending, gen, used int
	dead                              bool
}

func countsOf(e *engine.Engine, d *disk.Disk) counts {
	writes, syncs := d.Counts()
	return counts{writes, syncs, d.Pending(), e.Gen(), e.Used(), e.Dead()}
}

// wantSame asks that both have answered the same.
func (p *pair) wantSame(what string, got []api.Mail, err api.Errno, wanted []api.Mail, wantedErr api.Errno) ([]api.Mail, api.Errno) {
	p.t.Helper()
	wantErr(p.t, what, err, wantedErr)
	wantText(p.t, what, told(got), told(wanted))
	p.wantAlike(what)
	return got, err
}

func (p *pair) move(shard, to int) ([]api.Mail, api.Errno) {
	p.t.Helper()
	got, err := p.h.Move(shard, to)
	wanted, wantedErr := p.m.move(shard, to)
	return p.wantSame(fmt.Sprintf("Move(%d, %d)", shard, to), got, err, wanted, wantedErr)
}

func (p *pair) cancel(shard int) api.Errno {
	p.t.Helper()
	err := p.h.Cancel(shard)
	p.wantSame(fmt.Sprintf("Cancel(%d)", shard), nil, err, nil, p.m.cancel(shard))
	return err
}

func (p *pair) hear(m api.Mail) ([]api.Mail, api.Errno) {
	p.t.Helper()
	got, err := p.h.Hear(m)
	wanted, wantedErr := p.m.hear(m)
	return p.wantSame("Hear of "+short(m), got, err, wanted, wantedErr)
}

func (p *pair) tick() ([]api.Mail, api.Errno) {
	p.t.Helper()
	got, err := p.h.Tick()
	wanted, wantedErr := p.m.tick()
	return p.wantSame("Tick", got, err, wanted, wantedErr)
}

// do is a record that the engines do, behind the Haul's back.
func (p *pair) do(r api.Record) (api.Answer, api.Errno) {
	p.t.Helper()
	a, err := p.e.Do(r)
	b, otherErr := p.m.e.Do(r)
	wantErr(p.t, "Do of the twin", otherErr, err)
	wantText(p.t, "Do of the twin", fmt.Sprint(b), fmt.Sprint(a))
	p.wantAlike("Do")
	return a, err
}

// tidy is the engines' Tidy.
func (p *pair) tidy() api.Errno {
	p.t.Helper()
	err := p.e.Tidy()
	wantErr(p.t, "Tidy of the twin", p.m.e.Tidy(), err)
	p.wantAlike("Tidy")
	return err
}
