package engine_test

import (
	"bytes"
	"fmt"
	"math"
	"slices"
	"testing"

	"haulage/api"
	"haulage/disk"
	"haulage/engine"
	"haulage/record"
	"haulage/shard"
	"haulage/state"
)

const (
	maxTime  = 1 << 40
	maxCopy  = 1 << 18
	maxEpoch = 1 << 30
	maxSeq   = 1 << 30
	maxRev   = 1 << 40
	held     = 57 // bytes of a record in a sector
)

// setupOf is a setup of which nothing else counts.
func setupOf(servers, shards, log, slot int) api.Setup {
	return api.Setup{Servers: servers, Shards: shards, Layout: api.Layout{Log: log, Shot: slot}}
}

// small is the least layout: regions of 24 sectors, slots of 64 (4032 bytes at most), 176 in all.
func small(servers, shards int) api.Setup { return setupOf(servers, shards, 24, 64) }

// sectorsOf is how many sectors a setup's layout takes.
func sectorsOf(s api.Setup) int { return 2*s.Layout.Log + 2*s.Layout.Shot }

// mostOf is how many bytes a slot takes.
func mostOf(s api.Setup) int { return 64 * (s.Layout.Shot - 1) }

func get(key string) api.Op { return api.Op{Kind: api.OpGet, Key: []byte(key)} }

func put(key, value string) api.Op {
	return api.Op{Kind: api.OpPut, Key: []byte(key), Value: []byte(value)}
}

func del(key string) api.Op { return api.Op{Kind: api.OpDelete, Key: []byte(key)} }

func swap(key, value string, rev int) api.Op {
	return api.Op{Kind: api.OpSwap, Key: []byte(key), Value: []byte(value), Rev: rev}
}

func write(shard, client, seq int, op api.Op) api.Record {
	return api.Record{Kind: api.RecWrite, Shard: shard, Client: client, Seq: seq, Op: op}
}

// puts is a write of one sector to the first shard.
func puts(seq int) api.Record { return write(0, 3, seq, put("a", "1")) }

func offer(shard, to int) api.Record {
	return api.Record{Kind: api.RecOffer, Shard: shard, Peer: to}
}

func install(shard, epoch, from int, copied []byte) api.Record {
	return api.Record{Kind: api.RecInstall, Shard: shard, Epoch: epoch, Peer: from, Copy: copied}
}

func plain(kind, shard int) api.Record { return api.Record{Kind: kind, Shard: shard} }

// text is a text of n bytes that are all unlike their neighbours; no two texts of unlike marks begin alike.
func text(n, mark int) string {
	p := make([]byte, n)
	for i := range p {
		p[i] = byte(1 + (mark*41+i*7)%255)
	}
	return string(p)
}

// farNumbers are such as no bound lets through.
func farNumbers() []int {
	return []int{math.MinInt, math.MinInt + 1, -1 << 32, 1 << 32, 1<<32 + 1, 1 << 62, math.MaxInt/2 + 1, math.MaxInt - 1, math.MaxInt}
}

// copyOf is the form of a shard on which so many puts were done.
func copyOf(puts int) []byte {
	s := shard.New()
	for i := range puts {
		s.Do(i%3, 1+i, put(fmt.Sprint("k", i%5), text(i%7, i)))
	}
	return s.Export()
}

// copyOfSize is the form of a shard that has just so many bytes.
func copyOfSize(t *testing.T, size int) []byte {
	t.Helper()
	s := shard.New()
	seq := 1
	for ; s.Size()+400 < size; seq++ {
		s.Do(0, seq, put(fmt.Sprintf("%05d", seq), text(256, seq)))
	}
	for n := range 256 * 256 {
		u := s.Copy()
		u.Do(0, seq, put("x", text(n%256, 1)))
		u.Do(0, seq+1, put("yy", text(n/256, 2)))
		if u.Size() == size {
			return u.Export()
		}
	}
	t.Fatalf("no copy of %d bytes", size)
	return nil
}

// formOf is a sound record's form.
func formOf(t *testing.T, r api.Record) []byte {
	t.Helper()
	p, err := record.Encode(r)
	wantErr(t, "Encode of "+short(r), err, api.OK)
	return p
}

// formsOf are the forms of sound records.
func formsOf(t *testing.T, all ...api.Record) [][]byte {
	t.Helper()
	var forms [][]byte
	for _, r := range all {
		forms = append(forms, formOf(t, r))
	}
	return forms
}

// stateOf is what records make of a new state; each must be taken.
func stateOf(t *testing.T, server int, s api.Setup, all ...api.Record) *state.State {
	t.Helper()
	now, err := state.New(server, s.Servers, s.Shards)
	wantErr(t, "New of a state", err, api.OK)
	for _, r := range all {
		_, err := now.Apply(r)
		wantErr(t, "Apply of "+short(r), err, api.OK)
	}
	return now
}

// sized is a state of one shard that has just so many bytes, more than a thousand, and the seq that client 3 is to take next.
func sized(t *testing.T, s api.Setup, size int) (*state.State, int) {
	t.Helper()
	now := stateOf(t, 0, s)
	seq := 1
	for ; now.Size()+600 < size; seq++ {
		_, err := now.Apply(write(0, 3, seq, put(fmt.Sprint("fill", seq), text(256, seq))))
		wantErr(t, "filling", err, api.OK)
	}
	first := writeOfSize(t, now, seq, now.Size()+(size-now.Size())/2)
	_, err := now.Apply(first)
	wantErr(t, "filling", err, api.OK)
	last := writeOfSize(t, now, seq+1, size)
	_, err = now.Apply(last)
	wantErr(t, "filling", err, api.OK)
	wantNum(t, "Size of a state that was filled", now.Size(), size)
	return now, seq + 2
}

// writeOfSize is a write of client 3 behind which the state has just so many bytes.
func writeOfSize(t *testing.T, now *state.State, seq, size int) api.Record {
	t.Helper()
	for n := range 64 * 257 {
		r := write(0, 3, seq, put(text(1+n/257, seq), text(n%257, seq)))
		if after, err := now.After(r); err == api.OK && after == size {
			return r
		}
	}
	t.Fatalf("no write that makes %d bytes of %d", size, now.Size())
	return api.Record{}
}

func fresh(t *testing.T, sectors int) *disk.Disk {
	t.Helper()
	d, err := disk.New(sectors)
	wantErr(t, "New of a disk", err, api.OK)
	return d
}

func loaded(t *testing.T, image []byte) *disk.Disk {
	t.Helper()
	d, err := disk.Load(image)
	wantErr(t, "Load of an image", err, api.OK)
	return d
}

// opened is an Open that goes well.
func opened(t *testing.T, what string, d *disk.Disk, server int, s api.Setup) *engine.Engine {
	t.Helper()
	e, err := engine.Open(d, server, s)
	wantErr(t, what+": Open", err, api.OK)
	if e == nil {
		t.Fatalf("%s: Open: no engine", what)
	}
	return e
}

// wantNotOpened asks for an Open that is refused with no engine.
func wantNotOpened(t *testing.T, what string, d *disk.Disk, server int, s api.Setup, wanted api.Errno) {
	t.Helper()
	e, err := engine.Open(d, server, s)
	wantErr(t, what+": Open", err, wanted)
	if e != nil {
		t.Fatalf("%s: Open: an engine beside an error", what)
	}
}

// wantOpenRefused asks for an Open that is refused and changes nothing on the disk.
func wantOpenRefused(t *testing.T, what string, d *disk.Disk, server int, s api.Setup, wanted api.Errno) {
	t.Helper()
	wantUntouched(t, what, d, func() { wantNotOpened(t, what, d, server, s, wanted) })
}

// wantUntouched asks that a call changes nothing on the disk, and writes nothing either.
func wantUntouched(t *testing.T, what string, d *disk.Disk, call func()) {
	t.Helper()
	image, pending := d.Image(), d.Pending()
	writes, syncs := d.Counts()
	call()
	wantBytes(t, what+": Image behind it", d.Image(), image)
	wantNum(t, what+": Pending behind it", d.Pending(), pending)
	w, s := d.Counts()
	wantNum(t, what+": writes behind it", w, writes)
	wantNum(t, what+": syncs behind it", s, syncs)
}

// done is a Do that goes well.
func done(t *testing.T, e *engine.Engine, r api.Record) api.Answer {
	t.Helper()
	a, err := e.Do(r)
	wantErr(t, "Do of "+short(r), err, api.OK)
	return a
}

// allDone are Dos that go well.
func allDone(t *testing.T, e *engine.Engine, all ...api.Record) {
	t.Helper()
	for _, r := range all {
		done(t, e, r)
	}
}

// wantDoRefused asks that a record is refused with nothing beside the error, and that nothing changes: neither what the engine tells nor the disk.
func wantDoRefused(t *testing.T, what string, e *engine.Engine, d *disk.Disk, r api.Record, wanted api.Errno) {
	t.Helper()
	what += ": Do of " + short(r)
	before := tale(e)
	wantUntouched(t, what, d, func() {
		a, err := e.Do(r)
		wantErr(t, what, err, wanted)
		wantAnswer(t, what+" beside an error", a, api.Answer{})
	})
	wantText(t, what+": what is told behind it", tale(e), before)
}

// tale is all that an engine tells.
func tale(e *engine.Engine) string {
	all := fmt.Sprintf("dead %v, gen %d, used %d, server %d of %d, %d shards, %x", e.Dead(), e.Gen(), e.Used(), e.Server(), e.Servers(), e.Shards(), e.Bytes())
	for i := -1; i <= e.Shards(); i++ {
		l, err := e.Ledger(i)
		a, did, why := e.Peek(i, 3, maxSeq, get("a"))
		all += fmt.Sprintf("\nshard %d: %v %d, root %x, %x, %s %v %d", i, l, err, e.Root(i), e.Export(i), told(a), did, why)
	}
	return all
}

// stateTale is what tale tells of an engine with this state.
func stateTale(now *state.State, gen, used int) string {
	all := fmt.Sprintf("dead false, gen %d, used %d, server %d of %d, %d shards, %x", gen, used, now.Server(), now.Servers(), now.Shards(), now.Bytes())
	for i := -1; i <= now.Shards(); i++ {
		l, err := now.Ledger(i)
		a, did, why := now.Peek(i, 3, maxSeq, get("a"))
		all += fmt.Sprintf("\nshard %d: %v %d, root %x, %x, %s %v %d", i, l, err, now.Root(i), now.Export(i), told(a), did, why)
	}
	return all
}

// deadTale is what tale tells of a dead engine.
func deadTale(gen, used int) string {
	all := fmt.Sprintf("dead true, gen %d, used %d, server 0 of 0, 0 shards, ", gen, used)
	for i := -1; i <= 0; i++ {
		all += fmt.Sprintf("\nshard %d: %v %d, root 0, , %s false %d", i, api.Ledger{}, api.ErrEngDead, told(api.Answer{}), api.ErrEngDead)
	}
	return all
}

// wantEngine asks for all that an engine tells, and that one is opened again over the same image which tells the same, without anything being written.
func wantEngine(t *testing.T, what string, e *engine.Engine, d *disk.Disk, server int, s api.Setup, now *state.State, gen, used int) {
	t.Helper()
	wantText(t, what, tale(e), stateTale(now, gen, used))
	other := loaded(t, d.Image())
	wantUntouched(t, what+": opened again", other, func() {
		wantText(t, what+": opened again", tale(opened(t, what, other, server, s)), stateTale(now, gen, used))
	})
}

// told is an answer as a text, in which nil and empty lists are the same.
func told(a api.Answer) string {
	return fmt.Sprintf("done %v, key %q, value %q, rev %d, at %d", a.Done, a.Key, a.Value, a.Rev, a.At)
}

// short is a record as a text that is not too long.
func short(r api.Record) string {
	return fmt.Sprintf("kind %d, shard %d, epoch %d, peer %d, client %d, seq %d, op %d %.20q %d bytes %d, copy of %d bytes", r.Kind, r.Shard, r.Epoch, r.Peer, r.Client, r.Seq, r.Op.Kind, r.Op.Key, len(r.Op.Value), r.Op.Rev, len(r.Copy))
}

func wantErr(t *testing.T, what string, got, wanted api.Errno) {
	t.Helper()
	if got != wanted {
		t.Fatalf("%s: error %d, want %d", what, got, wanted)
	}
}

func wantNum(t *testing.T, what string, got, wanted int) {
	t.Helper()
	if got != wanted {
		t.Fatalf("%s: %d, want %d", what, got, wanted)
	}
}

func wantBool(t *testing.T, what string, got, wanted bool) {
	t.Helper()
	if got != wanted {
		t.Fatalf("%s: %v, want %v", what, got, wanted)
	}
}

func wantText(t *testing.T, what, got, wanted string) {
	t.Helper()
	if got != wanted {
		t.Fatalf("%s:\n%s\nwant\n%s", what, got, wanted)
	}
}

func wantAnswer(t *testing.T, what string, got, wanted api.Answer) {
	t.Helper()
	wantText(t, what, told(got), told(wanted))
}

// wantBytes compares bytes; nil and empty are the same.
func wantBytes(t *testing.T, what string, got, wanted []byte) {
	t.Helper()
	if !bytes.Equal(got, wanted) {
		at := 0
		for at < min(len(got), len(wanted)) && got[at] == wanted[at] {
			at++
		}
		t.Fatalf("%s: %d bytes, want %d; from byte %d on: %v, want %v", what, len(got), len(wanted), at, got[at:min(len(got), at+70)], wanted[at:min(len(wanted), at+70)])
	}
}

// without is a list less one of its elements.
func without[T any](all []T, i int) []T { return slices.Delete(slices.Clone(all), i, i+1) }
