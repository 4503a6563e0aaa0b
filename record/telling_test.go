package record_test

import (
	"bytes"
	"encoding/binary"
	"testing"

	"haulage/api"
)

// The second telling: the chapter's words once more, without its layers.

func within(n, least, most int) bool { return n >= least && n <= most }

func toldSoundOp(op api.Op) bool {
	if !within(len(op.Key), 1, 64) {
		return false
	}
	switch op.Kind {
	case 2:
		return within(len(op.Value), 0, 256) && op.Rev == 0
	case 3:
		return len(op.Value) == 0 && op.Rev == 0
	case 4:
		return within(len(op.Value), 0, 256) && within(op.Rev, 0, 1<<40)
	}
	return false
}

func toldSound(r api.Record) bool {
	if !within(r.Kind, 1, 8) || !within(r.Shard, 0, 63) {
		return false
	}
	noPeer, noEpoch, noCopy := r.Peer == 0, r.Epoch == 0, len(r.Copy) == 0
	noWrite := r.Client == 0 && r.Seq == 0 && r.Op.Kind == 0 && len(r.Op.Key) == 0 && len(r.Op.Value) == 0 && r.Op.Rev == 0
	switch r.Kind {
	case 1:
		return within(r.Client, 0, 15) && within(r.Seq, 1, 1<<30) && toldSoundOp(r.Op) && noPeer && noEpoch && noCopy
	case 2:
		return within(r.Peer, 0, 7) && noEpoch && noCopy && noWrite
	case 4:
		return within(r.Epoch, 1, 1<<30) && within(r.Peer, 0, 7) && len(r.Copy) <= 1<<18 && noWrite
	}
	return noPeer && noEpoch && noCopy && noWrite
}

// piece is one piece of a form; size is how many of its first bytes are a number in layer 1's form.
type piece struct {
	bytes []byte
	size  int
}

func byteOf(n int) piece { return piece{[]byte{byte(n)}, 0} }

func numOf(n int) piece {
	p := binary.AppendUvarint(nil, uint64(n))
	return piece{p, len(p)}
}

func textOf(p []byte) piece {
	n := numOf(len(p))
	return piece{append(n.bytes, p...), n.size}
}

// toldPieces are the pieces of a sound record's form.
func toldPieces(r api.Record) []piece {
	all := []piece{byteOf(r.Kind), numOf(r.Shard)}
	switch r.Kind {
	case 1:
		all = append(all, numOf(r.Client), numOf(r.Seq), byteOf(r.Op.Kind), textOf(r.Op.Key))
		if r.Op.Kind == 2 {
			all = append(all, textOf(r.Op.Value))
		}
		if r.Op.Kind == 4 {
			all = append(all, textOf(r.Op.Value), numOf(r.Op.Rev))
		}
	case 2:
		all = append(all, numOf(r.Peer))
	case 4:
		all = append(all, numOf(r.Epoch), numOf(r.Peer), textOf(r.Copy))
	}
	return all
}

func joined(pieces []piece) []byte {
	var p []byte
	for _, one := range pieces {
		p = append(p, one.bytes...)
	}
	return p
}

func toldForm(r api.Record) []byte { return joined(toldPieces(r)) }

// looseReader takes pieces up without asking much: numbers in any form, texts as long as there are bytes. What it makes of bytes that are no form at all is of no use.
type looseReader struct{ left []byte }

func (r *looseReader) byte() int {
	if len(r.left) == 0 {
		return 0
	}
	b := r.left[0]
	r.left = r.left[1:]
	return int(b)
}

func (r *looseReader) num() int {
	n, k := binary.Uvarint(r.left)
	if k <= 0 {
		k = len(r.left)
	}
	r.left = r.left[k:]
	return int(n)
}

func (r *looseReader) text() []byte {
	n := min(uint64(r.num()), uint64(len(r.left)))
	p := r.left[:n]
	r.left = r.left[n:]
	return p
}

// toldDecode reads loosely, and takes what it finds for read if that is sound and its form is just these bytes.
func toldDecode(p []byte) (api.Record, bool) {
	in := &looseReader{p}
	r := api.Record{Kind: in.byte(), Shard: in.num()}
	switch r.Kind {
	case 1:
		r.Client, r.Seq = in.num(), in.num()
		r.Op.Kind, r.Op.Key = in.byte(), in.text()
		if r.Op.Kind == 2 || r.Op.Kind == 4 {
			r.Op.Value = in.text()
		}
		if r.Op.Kind == 4 {
			r.Op.Rev = in.num()
		}
	case 2:
		r.Peer = in.num()
	case 4:
		r.Epoch, r.Peer, r.Copy = in.num(), in.num(), in.text()
	}
	return r, toldSound(r) && bytes.Equal(toldForm(r), p)
}

// The second telling has to be right itself: of what it lays down it reads the same, and of a few records it says what the chapter does.
func TestTelling(t *testing.T) {
	for _, r := range soundRecords() {
		if !toldSound(r) {
			t.Fatalf("not told sound: %s", short(r))
		}
		if back, ok := toldDecode(toldForm(r)); !ok || !alike(back, r) {
			t.Fatalf("told %s: read as %s, %v", short(r), short(back), ok)
		}
	}
	if p := toldForm(install(1, 200, 2, "\x09\x08")); !bytes.Equal(p, []byte{4, 1, 200, 1, 2, 2, 9, 8}) {
		t.Errorf("told form: %v", p)
	}
}
