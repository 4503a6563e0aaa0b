package record_test

import (
	"bytes"
	"fmt"
	"math"
	"math/rand"
	"testing"

	"haulage/api"
	"haulage/record"
)

const (
	maxShards  = 64
	maxServers = 8
	maxClients = 16
	maxSeq     = 1 << 30
	maxEpoch   = 1 << 30
	maxRev     = 1 << 40
	maxKey     = 64
	maxValue   = 256
	maxCopy    = 1 << 18
)

func put(key, value string) api.Op {
	return api.Op{Kind: 2, Key: []byte(key), Value: []byte(value)}
}

func del(key string) api.Op { return api.Op{Kind: 3, Key: []byte(key)} }

func swap(key, value string, rev int) api.Op {
	return api.Op{Kind: 4, Key: []byte(key), Value: []byte(value), Rev: rev}
}

func write(shard, client, seq int, op api.Op) api.Record {
	return api.Record{Kind: 1, Shard: shard, Client: client, Seq: seq, Op: op}
}

func offer(shard, peer int) api.Record { return api.Record{Kind: 2, Shard: shard, Peer: peer} }

func install(shard, epoch, peer int, copied string) api.Record {
	return api.Record{Kind: 4, Shard: shard, Epoch: epoch, Peer: peer, Copy: []byte(copied)}
}

func plain(kind, shard int) api.Record { return api.Record{Kind: kind, Shard: shard} }

// text is a text of n bytes that are unlike their neighbours.
func text(n, mark int) string {
	p := make([]byte, n)
	for i := range p {
		p[i] = byte(mark*41 + i*7)
	}
	return string(p)
}

// one is a sound record of each of the eight kinds, with nothing but zeros where they may be.
func one(kind int) api.Record {
	switch kind {
	case 1:
		return write(0, 0, 1, del("a"))
	case 4:
		return install(0, 1, 0, "")
	}
	return plain(kind, 0)
}

// other is a sound record of each of the eight kinds that has something in each field which its kind has.
func other(kind int) api.Record {
	switch kind {
	case 1:
		return write(40, 9, 300, swap("key", "value", 70000))
	case 2:
		return offer(41, 5)
	case 4:
		return install(42, 200, 3, "a copy")
	}
	return plain(kind, 43)
}

// edges are the numbers at the ends of what a field may be, within and beyond; and those that come out as one that may be where only their lowest bits count.
func edges(least, most int) []int {
	return []int{
		math.MinInt, math.MinInt + least, math.MinInt + most, -1 << 32, -256, -most, least - 2, least - 1, least, least + 1,
		most / 2, most - 1, most, most + 1, most + 2, 256 + least, 1<<32 + least, 1<<32 + most, 1 << 40, math.MaxInt,
	}
}

// soundOps are writes that are right, at the ends of all that they have.
func soundOps() []api.Op {
	var all []api.Op
	for _, k := range []int{1, 2, maxKey - 1, maxKey} {
		all = append(all, del(text(k, k)))
		for _, v := range []int{0, 1, 127, 128, maxValue - 1, maxValue} {
			all = append(all, put(text(k, k), text(v, v)))
			for _, rev := range []int{0, 1, 127, 128, maxRev - 1, maxRev} {
				all = append(all, swap(text(k, k), text(v, v), rev))
			}
		}
	}
	return all
}

// soundRecords are records of each kind, at the ends of all that they have; the greatest Copies apart.
func soundRecords() []api.Record {
	var all []api.Record
	for _, shard := range []int{0, 1, 2, maxShards - 2, maxShards - 1} {
		for kind := 1; kind <= 8; kind++ {
			all = append(all, one(kind), other(kind))
			all[len(all)-1].Shard, all[len(all)-2].Shard = shard, shard
		}
		for peer := range maxServers {
			all = append(all, offer(shard, peer))
			for _, epoch := range []int{1, 2, 127, 128, maxEpoch - 1, maxEpoch} {
				for _, n := range []int{0, 1, 2, 127, 128, 500} {
					all = append(all, install(shard, epoch, peer, text(n, n)))
				}
			}
		}
		for _, client := range []int{0, 1, maxClients - 2, maxClients - 1} {
			for _, seq := range []int{1, 2, 127, 128, maxSeq - 1, maxSeq} {
				for _, op := range soundOps() {
					all = append(all, write(shard, client, seq, op))
				}
			}
		}
	}
	return all
}

// fewRecords are sound ones of all kinds whose forms are short, by which each place of a form can be gone over.
func fewRecords() []api.Record {
	all := []api.Record{
		write(5, 3, 300, put("a", "\x01\x02")), write(63, 15, maxSeq, put("bc", "")), write(0, 0, 1, del("a")), write(7, 7, 128, del(text(maxKey, 1))),
		write(0, 0, 1, swap("a", "", 0)), write(1, 2, 3, swap("\x00", "\x00", maxRev)), write(9, 9, 127, swap("key", "value", 128)), write(1, 1, 1, put("k", text(128, 1))),
		offer(0, 0), offer(63, 7), install(0, 1, 0, ""), install(1, 200, 2, "\x09\x08"), install(63, maxEpoch, 7, text(130, 2)), install(6, 128, 6, "\x00"),
	}
	for _, kind := range []int{3, 5, 6, 7, 8} {
		all = append(all, plain(kind, 0), plain(kind, 1), plain(kind, 63))
	}
	return all
}

// anySound is a sound record at random.
func anySound(dice *rand.Rand) api.Record {
	shard := dice.Intn(maxShards)
	switch kind := 1 + dice.Intn(8); kind {
	case 1:
		key, value := text(1+dice.Intn(maxKey), dice.Int()), text(dice.Intn(maxValue+1), dice.Int())
		op := []api.Op{put(key, value), del(key), swap(key, value, dice.Intn(1<<dice.Intn(41)+1))}[dice.Intn(3)]
		return write(shard, dice.Intn(maxClients), 1+dice.Intn(1<<dice.Intn(31)), op)
	case 2:
		return offer(shard, dice.Intn(maxServers))
	case 4:
		return install(shard, 1+dice.Intn(1<<dice.Intn(31)), dice.Intn(maxServers), text(dice.Intn(300), dice.Int()))
	default:
		return plain(kind, shard)
	}
}

// told is a record as a text, in which nil lists and empty ones are the same.
func told(r api.Record) string {
	return fmt.Sprintf("kind %d, shard %d, epoch %d, peer %d, client %d, seq %d, op %d %q %q %d, copy %q", r.Kind, r.Shard, r.Epoch, r.Peer, r.Client, r.Seq, r.Op.Kind, r.Op.Key, r.Op.Value, r.Op.Rev, r.Copy)
}

// short is told without the end of a long one.
func short(r api.Record) string {
	s := told(r)
	return s[:min(len(s), 300)]
}

func alike(a, b api.Record) bool {
	numbers := a.Kind == b.Kind && a.Shard == b.Shard && a.Epoch == b.Epoch && a.Peer == b.Peer && a.Client == b.Client && a.Seq == b.Seq
	ops := a.Op.Kind == b.Op.Kind && bytes.Equal(a.Op.Key, b.Op.Key) && bytes.Equal(a.Op.Value, b.Op.Value) && a.Op.Rev == b.Op.Rev
	return numbers && ops && bytes.Equal(a.Copy, b.Copy)
}

// wantForm asks all four calls about a sound record and its form.
func wantForm(t *testing.T, r api.Record, form []byte) {
	t.Helper()
	if !record.Sound(r) {
		t.Fatalf("not Sound: %s", short(r))
	}
	if p, err := record.Encode(r); err != api.OK || !bytes.Equal(p, form) {
		t.Fatalf("Encode of %s: %v, error %d; wanted %v", short(r), p[:min(len(p), 80)], err, form[:min(len(form), 80)])
	}
	if n, err := record.Size(r); err != api.OK || n != len(form) {
		t.Fatalf("Size of %s: %d, error %d; wanted %d", short(r), n, err, len(form))
	}
	if back, err := record.Decode(form); err != api.OK || !alike(back, r) {
		t.Fatalf("Decode of the form of %s: %s, error %d", short(r), short(back), err)
	}
}

// wantUnsound asks the three calls that are handed a record.
func wantUnsound(t *testing.T, r api.Record) {
	t.Helper()
	if record.Sound(r) {
		t.Fatalf("Sound: %s", short(r))
	}
	if p, err := record.Encode(r); err != api.ErrRecForm || len(p) != 0 {
		t.Fatalf("Encode of %s: %v, error %d", short(r), p[:min(len(p), 80)], err)
	}
	if n, err := record.Size(r); err != api.ErrRecForm || n != 0 {
		t.Fatalf("Size of %s: %d, error %d", short(r), n, err)
	}
}

// wantNoForm asks that Decode refuses.
func wantNoForm(t *testing.T, p []byte) {
	t.Helper()
	if r, err := record.Decode(p); err != api.ErrRecForm || !alike(r, api.Record{}) {
		t.Fatalf("Decode of %v: %s, error %d", p[:min(len(p), 80)], short(r), err)
	}
}

// wantAsTold asks about a record whatever the second telling says of it.
func wantAsTold(t *testing.T, r api.Record) {
	t.Helper()
	if toldSound(r) {
		wantForm(t, r, toldForm(r))
	} else {
		wantUnsound(t, r)
	}
}

// wantReadAsTold asks Decode whatever the second telling says of the bytes.
func wantReadAsTold(t *testing.T, p []byte) {
	t.Helper()
	wanted, ok := toldDecode(p)
	if !ok {
		wantNoForm(t, p)
		return
	}
	if r, err := record.Decode(p); err != api.OK || !alike(r, wanted) {
		t.Fatalf("Decode of %v: %s, error %d; wanted %s", p[:min(len(p), 80)], short(r), err, short(wanted))
	}
}
