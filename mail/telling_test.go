package mail_test

import (
	"bytes"
	"encoding/binary"
	"hash/crc32"
	"testing"

	"haulage/api"
)

// The second telling: the chapter's words once more, without its layers.

func within(n, least, most int) bool { return n >= least && n <= most }

func toldServer(n int) bool { return within(n, 0, 7) }

func toldRight(op api.Op) bool {
	k, v := len(op.Key), len(op.Value)
	switch op.Kind {
	case 1, 3:
		return within(k, 1, 64) && v == 0 && op.Rev == 0
	case 2:
		return within(k, 1, 64) && v <= 256 && op.Rev == 0
	case 4:
		return within(k, 1, 64) && v <= 256 && within(op.Rev, 0, 1<<40)
	case 5:
		return k <= 65 && v == 0 && op.Rev == 0
	}
	return false
}

func toldFit(a api.Answer) bool {
	if len(a.Key) == 0 && !(len(a.Value) == 0 && a.Rev == 0) {
		return false
	}
	return len(a.Key) <= 64 && len(a.Value) <= 256 && within(a.At, 0, 1<<40) && within(a.Rev, 0, a.At)
}

// toldOwn is the message with those fields alone that the chapter's table gives to its kind and its verdict.
func toldOwn(m api.Mail) api.Mail {
	own := api.Mail{Kind: m.Kind, From: m.From, To: m.To, Shard: m.Shard}
	switch m.Kind {
	case 1:
		own.Client, own.Seq, own.Op = m.Client, m.Seq, m.Op
	case 2:
		own.Client, own.Seq, own.Verdict = m.Client, m.Seq, m.Verdict
		if m.Verdict == isDone {
			own.Answer = m.Answer
		}
		if m.Verdict == wrongOwner || m.Verdict == frozen {
			own.Hint = m.Hint
		}
	case 3:
		own.Epoch, own.Root, own.Copy = m.Epoch, m.Root, m.Copy
	default:
		own.Epoch = m.Epoch
	}
	return own
}

// toldNames: are the names those of whom such a message goes from and to?
func toldNames(m api.Mail) bool {
	switch m.Kind {
	case 1:
		return within(m.Client, 0, 15) && within(m.From, 100, 115) && m.From-100 == m.Client && toldServer(m.To)
	case 2:
		return within(m.Client, 0, 15) && within(m.To, 100, 115) && m.To-100 == m.Client && toldServer(m.From)
	}
	return toldServer(m.From) && toldServer(m.To) && m.From != m.To
}

func toldSound(m api.Mail) bool {
	if !within(m.Kind, 1, 8) || !within(m.Shard, 0, 63) || !toldNames(m) || !alike(m, toldOwn(m)) {
		return false
	}
	switch m.Kind {
	case 1:
		return within(m.Seq, 1, 1<<30) && toldRight(m.Op)
	case 2:
		_, may := map[api.Errno]bool{isDone: true, logFull: true, diskFull: true, wrongOwner: true, frozen: true}[m.Verdict]
		return within(m.Seq, 1, 1<<30) && may && toldFit(m.Answer) && toldServer(m.Hint)
	}
	return within(m.Epoch, 1, 1<<30) && len(m.Copy) <= 1<<18
}

// piece is one piece of a form; size is how many of its first bytes are a number in layer 1's form.
type piece struct {
	bytes []byte
	size  int
}

func byteOf(n int) piece { return piece{[]byte{byte(n)}, 0} }

func numOf(n int) piece {
	p := binary.AppendUvarint(nil, uint64(n))
	return piece{p, len(p)}
}

func textOf(p []byte) piece {
	n := numOf(len(p))
	return piece{append(n.bytes, p...), n.size}
}

func rootOf(n uint64) piece { return piece{binary.LittleEndian.AppendUint64(nil, n), 0} }

// toldPieces are the pieces of a sound message's form, but for the sum.
func toldPieces(m api.Mail) []piece {
	all := []piece{byteOf(m.Kind), byteOf(m.From), byteOf(m.To), numOf(m.Shard)}
	switch m.Kind {
	case 1:
		all = append(all, numOf(m.Seq), byteOf(m.Op.Kind), textOf(m.Op.Key))
		if m.Op.Kind == 2 || m.Op.Kind == 4 {
			all = append(all, textOf(m.Op.Value))
		}
		if m.Op.Kind == 4 {
			all = append(all, numOf(m.Op.Rev))
		}
	case 2:
		all = append(all, numOf(m.Seq), numOf(int(m.Verdict)))
		if m.Verdict == isDone {
			done := map[bool]int{false: 0, true: 1}[m.Answer.Done]
			all = append(all, byteOf(done), textOf(m.Answer.Key), textOf(m.Answer.Value), numOf(m.Answer.Rev), numOf(m.Answer.At))
		}
		if m.Verdict == wrongOwner || m.Verdict == frozen {
			all = append(all, byteOf(m.Hint))
		}
	case 3:
		all = append(all, numOf(m.Epoch), rootOf(m.Root), textOf(m.Copy))
	default:
		all = append(all, numOf(m.Epoch))
	}
	return all
}

func joined(pieces []piece) []byte {
	var p []byte
	for _, one := range pieces {
		p = append(p, one.bytes...)
	}
	return p
}

// summed is a body with its sum behind.
func summed(body []byte) []byte {
	sum := crc32.Checksum(body, crc32.MakeTable(crc32.Castagnoli))
	return binary.LittleEndian.AppendUint32(bytes.Clone(body), sum)
}

func toldBody(m api.Mail) []byte { return joined(toldPieces(m)) }

func toldForm(m api.Mail) []byte { return summed(toldBody(m)) }

// looseReader takes pieces up without asking much: numbers in any form, texts as long as there are bytes. What it makes of bytes that are no form at all is of no use.
type looseReader struct{ left []byte }

func (r *looseReader) byte() int {
	if len(r.left) == 0 {
		return 0
	}
	b := r.left[0]
	r.left = r.left[1:]
	return int(b)
}

func (r *looseReader) num() int {
	n, k := binary.Uvarint(r.left)
	if k <= 0 {
		k = len(r.left)
	}
	r.left = r.left[k:]
	return int(n)
}

func (r *looseReader) root() uint64 {
	n := uint64(0)
	for i := range 8 {
		n |= uint64(r.byte()) << (8 * i)
	}
	return n
}

func (r *looseReader) text() []byte {
	n := min(uint64(r.num()), uint64(len(r.left)))
	p := r.left[:n]
	r.left = r.left[n:]
	return p
}

// looseMail is what a loose reader makes of a body.
func looseMail(in *looseReader) api.Mail {
	m := api.Mail{Kind: in.byte(), From: in.byte(), To: in.byte(), Shard: in.num()}
	switch m.Kind {
	case 1:
		m.Client, m.Seq = m.From-100, in.num()
		m.Op.Kind, m.Op.Key = in.byte(), in.text()
		if m.Op.Kind == 2 || m.Op.Kind == 4 {
			m.Op.Value = in.text()
		}
		if m.Op.Kind == 4 {
			m.Op.Rev = in.num()
		}
	case 2:
		m.Client, m.Seq, m.Verdict = m.To-100, in.num(), api.Errno(in.num())
		if m.Verdict == isDone {
			m.Answer.Done, m.Answer.Key, m.Answer.Value = in.byte() != 0, in.text(), in.text()
			m.Answer.Rev, m.Answer.At = in.num(), in.num()
		} else if m.Verdict == wrongOwner || m.Verdict == frozen {
			m.Hint = in.byte()
		}
	case 3:
		m.Epoch, m.Root, m.Copy = in.num(), in.root(), in.text()
	default:
		m.Epoch = in.num()
	}
	return m
}

// toldDecode asks for the errors in their order; then it reads loosely, and takes what it finds for read if that is sound and its form is just these bytes.
func toldDecode(p []byte) (api.Mail, api.Errno) {
	if len(p) > 524288 {
		return api.Mail{}, 3
	}
	if len(p) < 8 {
		return api.Mail{}, 190
	}
	body := p[:len(p)-4]
	if !bytes.Equal(summed(body), p) {
		return api.Mail{}, 191
	}
	m := looseMail(&looseReader{body})
	if !toldSound(m) || !bytes.Equal(toldBody(m), body) {
		return api.Mail{}, 190
	}
	return m, 0
}

// The second telling has to be right itself: of what it lays down it reads the same, and of a few messages it says what the chapter does.
func TestTelling(t *testing.T) {
	for _, m := range soundMails() {
		if !toldSound(m) {
			t.Fatalf("not told sound: %s", short(m))
		}
		if back, err := toldDecode(toldForm(m)); err != 0 || !alike(back, m) {
			t.Fatalf("told %s: read as %s, error %d", short(m), short(back), int(err))
		}
	}
	if p := toldForm(plain(7, 2, 0, 63, 200)); !bytes.Equal(p, []byte{7, 2, 0, 63, 200, 1, 11, 255, 173, 23}) {
		t.Errorf("told form: %v", p)
	}
	if p := toldBody(offer(0, 2, 5, 1, 258, "\x07\x07")); !bytes.Equal(p, []byte{3, 0, 2, 5, 1, 2, 1, 0, 0, 0, 0, 0, 0, 2, 7, 7}) {
		t.Errorf("told body: %v", p)
	}
}
