package server_test

import (
	"bytes"
	"encoding/binary"
	"fmt"
	"hash/crc32"
	"math"
	"slices"
	"testing"

	"haulage/api"
	"haulage/disk"
	"haulage/jump"
	"haulage/mail"
	"haulage/parcel"
	"haulage/server"
	"haulage/shard"
	"haulage/wal"
)

const (
	maxShards  = 64
	maxServers = 8
	maxClients = 16
	maxSeq     = 1 << 30
	maxEpoch   = 1 << 30
	maxRev     = 1 << 40
	maxTime    = 1 << 40
	maxCopy    = 1 << 18
	maxMail    = 1 << 19

	errNil         api.Errno = 1
	errArg         api.Errno = 2
	errRankNone    api.Errno = 60
	errDiskPower   api.Errno = 80
	errLedgerPhase api.Errno = 150
	errLedgerEpoch api.Errno = 151
	errLedgerPeer  api.Errno = 152
	errRecForm     api.Errno = 160
	errStateShard  api.Errno = 171
	errEngDead     api.Errno = 180
	errLogFull     api.Errno = 181
	errDiskFull    api.Errno = 182
	errEngDisk     api.Errno = 183
	errWrongOwner  api.Errno = 220
	errFrozen      api.Errno = 221
)

// setupOf is a setup of the least layout: regions of 24 sectors, slots of 64 (4032 bytes at most), 176 in all.
func setupOf(servers, shards int) api.Setup {
	return api.Setup{Servers: servers, Shards: shards, Layout: api.Layout{Log: 24, Shot: 64}}
}

func absent(home int) api.Ledger           { return api.Ledger{Phase: 0, Peer: home} }
func owned(epoch, server int) api.Ledger   { return api.Ledger{Phase: 1, Epoch: epoch, Peer: server} }
func offered(epoch, peer int) api.Ledger   { return api.Ledger{Phase: 2, Epoch: epoch, Peer: peer} }
func committed(epoch, peer int) api.Ledger { return api.Ledger{Phase: 3, Epoch: epoch, Peer: peer} }
func installed(epoch, peer int) api.Ledger { return api.Ledger{Phase: 4, Epoch: epoch, Peer: peer} }
func released(epoch, peer int) api.Ledger  { return api.Ledger{Phase: 5, Epoch: epoch, Peer: peer} }

// atFirst is what a server knows of a shard when nothing has happened yet.
func atFirst(shard, server, servers int) api.Ledger {
	home := jump.Home(shard, servers)
	if home == server {
		return owned(0, server)
	}
	return absent(home)
}

// keeps says whether there is a copy.
func keeps(l api.Ledger) bool { return l.Phase >= 1 && l.Phase <= 4 }

func put(key, value string) api.Op {
	return api.Op{Kind: 2, Key: []byte(key), Value: []byte(value)}
}

func get(key string) api.Op    { return api.Op{Kind: 1, Key: []byte(key)} }
func remove(key string) api.Op { return api.Op{Kind: 3, Key: []byte(key)} }
func seek(key string) api.Op   { return api.Op{Kind: 5, Key: []byte(key)} }

func swap(key, value string, rev int) api.Op {
	return api.Op{Kind: 4, Key: []byte(key), Value: []byte(value), Rev: rev}
}

// keyOf is the so-manieth key of a shard.
func keyOf(shard, shards, number int) string {
	for i := 0; ; i++ {
		key := fmt.Sprint("k", i)
		if jump.Shard([]byte(key), shards) != shard {
			continue
		}
		if number == 0 {
			return key
		}
		number--
	}
}

// ask is a request of a client to a server.
func ask(to, client, seq, shard int, op api.Op) api.Mail {
	return api.Mail{Kind: 1, From: 100 + client, To: to, Client: client, Seq: seq, Shard: shard, Op: op}
}

// answered is the reply to a request with the verdict OK.
func answered(request api.Mail, a api.Answer) api.Mail {
	return api.Mail{Kind: 2, From: request.To, To: request.From, Shard: request.Shard, Client: request.Client, Seq: request.Seq, Answer: a}
}

// refused is the reply to a request with another verdict.
func refused(request api.Mail, verdict api.Errno, hint int) api.Mail {
	m := answered(request, api.Answer{})
	m.Verdict, m.Hint = verdict, hint
	return m
}

// plain is a message of the handshake that has no copy.
func plain(kind, from, to, shard, epoch int) api.Mail {
	return api.Mail{Kind: kind, From: from, To: to, Shard: shard, Epoch: epoch}
}

// offerOf is an offer of a copy with its own root.
func offerOf(t *testing.T, from, to, shard, epoch int, copied []byte) api.Mail {
	t.Helper()
	m := plain(3, from, to, shard, epoch)
	m.Root, m.Copy = shardOf(t, copied).Root(), copied
	return m
}

func shardOf(t *testing.T, copied []byte) *shard.Shard {
	t.Helper()
	s, err := shard.Import(copied)
	wantErr(t, "Import of a copy", err, api.OK)
	return s
}

// form is a message as bytes.
func form(t *testing.T, m api.Mail) []byte {
	t.Helper()
	p, err := mail.Encode(m)
	wantErr(t, "Encode of "+short(m), err, api.OK)
	return p
}

// text is a text of n bytes that are all unlike their neighbours; no two texts of unlike marks begin alike.
func text(n, mark int) string {
	p := make([]byte, n)
	for i := range p {
		p[i] = byte(1 + (mark*41+i*7)%255)
	}
	return string(p)
}

// emptyCopy is the form of a new shard.
func emptyCopy() []byte { return []byte{2, 0, 0, 0} }

// copyOf is the form of a shard on which so many puts were done.
func copyOf(puts int) []byte {
	s := shard.New()
	for i := range puts {
		s.Do(i%3, 1+i, put(fmt.Sprint("k", i%5), text(i%7, i)))
	}
	return s.Export()
}

// copyOfSize is the form of a shard that has just so many bytes; client 0 has written to it.
func copyOfSize(t *testing.T, size int) []byte {
	t.Helper()
	s := shard.New()
	seq := 1
	for ; s.Size()+500 < size; seq++ {
		s.Do(0, seq, put(fmt.Sprintf("%05d", seq), text(256, seq)))
	}
	with := func(first, second int) *shard.Shard {
		u := s.Copy()
		u.Do(0, seq, put("x", text(first, 1)))
		u.Do(0, seq+1, put("yy", text(second, 2)))
		return u
	}
	more := size - with(0, 0).Size()
	for n := range 100 {
		first := max(0, min(250, more)-n%10)
		if u := with(first, max(0, more-first-n/10)); u.Size() == size {
			return u.Export()
		}
	}
	t.Fatalf("no copy of %d bytes", size)
	return nil
}

// copyAt is the form of a shard without rows, of this revision, at which client 0 has written with this seq.
func copyAt(t *testing.T, rev, seq int) []byte {
	t.Helper()
	w := parcel.New(100)
	w.Num(uint64(rev))
	w.Num(0)
	table, err := w.Done()
	wantErr(t, "the form of a table", err, api.OK)
	w = parcel.New(100)
	w.Text(table)
	for _, n := range []int{1, 0, seq} {
		w.Num(uint64(n))
	}
	w.Byte(0)
	w.Text(nil)
	w.Text(nil)
	w.Num(0)
	w.Num(uint64(rev))
	p, err := w.Done()
	wantErr(t, "the form of a shard", err, api.OK)
	return p
}

// farNumbers are such as no bound lets through.
func farNumbers() []int {
	return []int{math.MinInt, math.MinInt + 1, -1 << 32, 1 << 32, 1<<32 + 1, 1 << 62, math.MaxInt - 1, math.MaxInt}
}

// known is what a server knows of a shard: a ledger, and a copy, if it keeps one (an empty one, where none is said).
type known struct {
	l      api.Ledger
	copied []byte
}

// knownOf are ledgers with empty copies.
func knownOf(all ...api.Ledger) []known {
	var row []known
	for _, l := range all {
		row = append(row, known{l: l})
	}
	return row
}

// formOf is the form of a state, by chapter 17's words.
func formOf(t *testing.T, server, servers int, row []known) []byte {
	t.Helper()
	w := parcel.New(1 << 20)
	for _, n := range []int{server, servers, len(row)} {
		w.Byte(n)
	}
	for _, k := range row {
		w.Byte(k.l.Phase)
		w.Fixed(uint64(k.l.Epoch), 4)
		w.Byte(k.l.Peer)
	}
	for _, k := range row {
		if copied := k.copied; keeps(k.l) {
			if copied == nil {
				copied = emptyCopy()
			}
			w.Text(copied)
		}
	}
	p, err := w.Done()
	wantErr(t, "the form of a state", err, api.OK)
	return p
}

// sealed is a sector with its sum behind the first 59 bytes, and its end mark.
func sealed(p []byte) []byte {
	p = append(p, make([]byte, 59-len(p))...)
	return append(binary.BigEndian.AppendUint32(p, sumOf(p)), 165)
}

func sumOf(p []byte) uint32 { return crc32.Checksum(p, crc32.MakeTable(crc32.Castagnoli)) }

// shotOf are the sectors of a snapshot, by chapter 12's words.
func shotOf(gen int, data []byte) [][]byte {
	head := binary.BigEndian.AppendUint64([]byte{83, 72, 79, 84}, uint64(gen))
	head = binary.BigEndian.AppendUint32(head, uint32(len(data)))
	all := [][]byte{sealed(binary.BigEndian.AppendUint32(head, sumOf(data)))}
	for piece := range slices.Chunk(data, 64) {
		all = append(all, append(slices.Clone(piece), make([]byte, 64-len(piece))...))
	}
	return all
}

// imageOf is the image of an engine's disk: of this generation, with a state that is saved, and no records behind it.
func imageOf(t *testing.T, s api.Setup, gen int, state []byte) []byte {
	t.Helper()
	d, err := disk.New(2*s.Layout.Log + 2*s.Layout.Shot)
	wantErr(t, "New of a disk", err, api.OK)
	place := 1 - gen%2
	_, err = wal.Make(d, place*s.Layout.Log, s.Layout.Log, gen)
	wantErr(t, "Make of a log", err, api.OK)
	for i, p := range shotOf(gen, state) {
		wantErr(t, "a snapshot", d.Write(2*s.Layout.Log+place*s.Layout.Shot+i, p), api.OK)
	}
	wantErr(t, "a snapshot", d.Sync(), api.OK)
	return d.Image()
}

// blank is the image of a new disk for a setup.
func blank(s api.Setup) []byte { return make([]byte, 64*2*(s.Layout.Log+s.Layout.Shot)) }

// loaded is a disk with this image.
func loaded(t *testing.T, image []byte) *disk.Disk {
	t.Helper()
	d, err := disk.Load(image)
	wantErr(t, "Load of an image", err, api.OK)
	return d
}

// opened is a server that Open answers.
func opened(t *testing.T, what string, d *disk.Disk, number int, s api.Setup) *server.Server {
	t.Helper()
	o, err := server.Open(d, number, s)
	wantErr(t, what+": Open", err, api.OK)
	if o == nil {
		t.Fatalf("%s: Open: no server", what)
	}
	return o
}

// lettersOf are messages as letters.
func lettersOf(t *testing.T, all ...api.Mail) []api.Letter {
	t.Helper()
	var letters []api.Letter
	for _, m := range all {
		letters = append(letters, api.Letter{From: m.From, To: m.To, Data: form(t, m)})
	}
	return letters
}

// told are letters as a text, in which nil and empty lists are the same.
func told(all []api.Letter) string {
	if len(all) == 0 {
		return "no letter"
	}
	words := fmt.Sprint(len(all), " letters")
	for _, l := range all {
		m, err := mail.Decode(l.Data)
		words += fmt.Sprintf("\n%d from %d to %d: %v (%+v, error %d)", l.Number, l.From, l.To, l.Data, m, err)
	}
	return words
}

// toldDeeds are deeds as a text.
func toldDeeds(all []api.Deed) string {
	if len(all) == 0 {
		return "no deed"
	}
	return fmt.Sprint(all)
}

// short is a message as a text that is not too long.
func short(m api.Mail) string {
	return fmt.Sprintf("kind %d from %d to %d, shard %d, epoch %d, root %x, a copy of %d bytes, client %d, seq %d, op %v", m.Kind, m.From, m.To, m.Shard, m.Epoch, m.Root, len(m.Copy), m.Client, m.Seq, m.Op)
}

// wantSent asks for letters with these messages.
func wantSent(t *testing.T, what string, got []api.Letter, err api.Errno, wanted ...api.Mail) {
	t.Helper()
	wantErr(t, what, err, api.OK)
	wantText(t, what, told(got), told(lettersOf(t, wanted...)))
}

// wantNone asks for an error with nothing beside it.
func wantNone(t *testing.T, what string, got []api.Letter, err, wanted api.Errno) {
	t.Helper()
	wantErr(t, what, err, wanted)
	wantText(t, what, told(got), told(nil))
}

func wantLedger(t *testing.T, what string, s *server.Server, shard int, wanted api.Ledger) {
	t.Helper()
	l, err := s.Ledger(shard)
	wantErr(t, what+": Ledger", err, api.OK)
	if l != wanted {
		t.Fatalf("%s: %v, want %v", what, l, wanted)
	}
}

func wantLoads(t *testing.T, what string, s *server.Server, wanted ...float64) {
	t.Helper()
	if got := s.Loads(); !slices.Equal(got, wanted) {
		t.Fatalf("%s: Loads: %v, want %v", what, got, wanted)
	}
}

// wantSpans asks for the spans from the first rank to the last one, and for none below and above.
func wantSpans(t *testing.T, what string, s *server.Server, wanted ...int) {
	t.Helper()
	wantNum(t, what+": Spans", s.Spans(), len(wanted))
	for i, n := range wanted {
		got, err := s.Span(i + 1)
		wantErr(t, fmt.Sprintf("%s: Span(%d)", what, i+1), err, api.OK)
		wantNum(t, fmt.Sprintf("%s: Span(%d)", what, i+1), got, n)
	}
	for _, rank := range append(farNumbers(), -1, 0, len(wanted)+1, len(wanted)+2) {
		got, err := s.Span(rank)
		wantErr(t, fmt.Sprintf("%s: Span(%d)", what, rank), err, errRankNone)
		wantNum(t, fmt.Sprintf("%s: Span(%d)", what, rank), got, 0)
	}
}

func wantDeeds(t *testing.T, what string, s *server.Server, wanted ...api.Deed) {
	t.Helper()
	wantText(t, what+": Deeds", toldDeeds(s.Deeds()), toldDeeds(wanted))
}

func wantErr(t *testing.T, what string, got, wanted api.Errno) {
	t.Helper()
	if got != wanted {
		t.Fatalf("%s: error %d, want %d", what, got, wanted)
	}
}

func wantNum(t *testing.T, what string, got, wanted int) {
	t.Helper()
	if got != wanted {
		t.Fatalf("%s: %d, want %d", what, got, wanted)
	}
}

func wantText(t *testing.T, what, got, wanted string) {
	t.Helper()
	if got != wanted {
		t.Fatalf("%s:\n%s\nwant\n%s", what, got, wanted)
	}
}

// wantBytes compares bytes; nil and empty are the same.
func wantBytes(t *testing.T, what string, got, wanted []byte) {
	t.Helper()
	if !bytes.Equal(got, wanted) {
		at := 0
		for at < min(len(got), len(wanted)) && got[at] == wanted[at] {
			at++
		}
		t.Fatalf("%s: %d bytes, want %d; from byte %d on: %v, want %v", what, len(got), len(wanted), at, got[at:min(len(got), at+70)], wanted[at:min(len(wanted), at+70)])
	}
}
