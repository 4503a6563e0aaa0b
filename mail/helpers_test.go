package mail_test

import (
	"bytes"
	"fmt"
	"math"
	"math/rand"
	"testing"

	"haulage/api"
	"haulage/mail"
)

const (
	maxShards  = 64
	maxServers = 8
	maxClients = 16
	maxSeq     = 1 << 30
	maxEpoch   = 1 << 30
	maxRev     = 1 << 40
	maxKey     = 64
	maxValue   = 256
	maxCopy    = 1 << 18
	maxMail    = 1 << 19
)

// The verdicts that may be, by their numbers.
const (
	isDone     = 0
	logFull    = 181
	diskFull   = 182
	wrongOwner = 220
	frozen     = 221
)

func get(key string) api.Op { return api.Op{Kind: 1, Key: []byte(key)} }

func put(key, value string) api.Op {
	return api.Op{Kind: 2, Key: []byte(key), Value: []byte(value)}
}

func del(key string) api.Op { return api.Op{Kind: 3, Key: []byte(key)} }

func swap(key, value string, rev int) api.Op {
	return api.Op{Kind: 4, Key: []byte(key), Value: []byte(value), Rev: rev}
}

func seek(key string) api.Op { return api.Op{Kind: 5, Key: []byte(key)} }

func answer(done bool, key, value string, rev, at int) api.Answer {
	return api.Answer{Done: done, Key: []byte(key), Value: []byte(value), Rev: rev, At: at}
}

func request(client, to, shard, seq int, op api.Op) api.Mail {
	return api.Mail{Kind: 1, From: 100 + client, To: to, Shard: shard, Client: client, Seq: seq, Op: op}
}

func reply(from, client, shard, seq int, a api.Answer) api.Mail {
	return api.Mail{Kind: 2, From: from, To: 100 + client, Shard: shard, Client: client, Seq: seq, Answer: a}
}

func refusal(from, client, shard, seq int, verdict api.Errno, hint int) api.Mail {
	return api.Mail{Kind: 2, From: from, To: 100 + client, Shard: shard, Client: client, Seq: seq, Verdict: verdict, Hint: hint}
}

func offer(from, to, shard, epoch int, root uint64, copied string) api.Mail {
	return api.Mail{Kind: 3, From: from, To: to, Shard: shard, Epoch: epoch, Root: root, Copy: []byte(copied)}
}

func plain(kind, from, to, shard, epoch int) api.Mail {
	return api.Mail{Kind: kind, From: from, To: to, Shard: shard, Epoch: epoch}
}

// text is a text of n bytes that are unlike their neighbours.
func text(n, mark int) string {
	p := make([]byte, n)
	for i := range p {
		p[i] = byte(mark*41 + i*7)
	}
	return string(p)
}

// shapes is how many unlike rows of fields there are: five ops, five verdicts, six kinds of the handshake.
const shapes = 16

// one is a sound message of each shape, with nothing but zeros where they may be.
func one(shape int) api.Mail {
	switch {
	case shape < 5:
		return request(0, 0, 0, 1, []api.Op{get("a"), put("a", ""), del("a"), swap("a", "", 0), seek("")}[shape])
	case shape == 5:
		return reply(0, 0, 0, 1, api.Answer{})
	case shape < 10:
		return refusal(0, 0, 0, 1, []api.Errno{logFull, diskFull, wrongOwner, frozen}[shape-6], 0)
	case shape == 10:
		return offer(0, 1, 0, 1, 0, "")
	}
	return plain(shape-7, 0, 1, 0, 1)
}

// other is a sound message of each shape that has something in each field which it has.
func other(shape int) api.Mail {
	switch {
	case shape < 5:
		return request(9, 5, 40, 300, []api.Op{get("key"), put("key", "value"), del("key"), swap("key", "value", 70000), seek("key")}[shape])
	case shape == 5:
		return reply(6, 11, 41, 70000, answer(true, "key", "value", 300, 70000))
	case shape < 8:
		return refusal(7, 15, 42, 128, []api.Errno{logFull, diskFull}[shape-6], 0)
	case shape < 10:
		return refusal(7, 15, 42, 128, []api.Errno{wrongOwner, frozen}[shape-8], 6)
	case shape == 10:
		return offer(3, 2, 43, 200, 0x0102030405060708, "a copy")
	}
	return plain(shape-7, 7, 4, 44, 300)
}

// edges are the numbers at the ends of what a field may be, within and beyond; and those that come out as one that may be where only their lowest bits count.
func edges(least, most int) []int {
	return []int{
		math.MinInt, math.MinInt + least, math.MinInt + most, -1 << 32, -256, -most, least - 2, least - 1, least, least + 1,
		most / 2, most - 1, most, most + 1, most + 2, 256 + least, 1<<32 + least, 1<<32 + most, 1 << 40, math.MaxInt,
	}
}

// soundOps are ops that are right, at the ends of all that they have.
func soundOps() []api.Op {
	all := []api.Op{seek(""), seek(text(maxKey+1, 1))}
	for _, k := range []int{1, 2, maxKey - 1, maxKey} {
		key := text(k, k)
		all = append(all, get(key), del(key), seek(key))
		for _, v := range []int{0, 1, 127, 128, maxValue - 1, maxValue} {
			all = append(all, put(key, text(v, v)))
			for _, rev := range []int{0, 1, 127, 128, maxRev - 1, maxRev} {
				all = append(all, swap(key, text(v, v), rev))
			}
		}
	}
	return all
}

// fitAnswers are answers that are fit, at the ends of all that they have.
func fitAnswers() []api.Answer {
	var all []api.Answer
	for _, done := range []bool{false, true} {
		for _, at := range []int{0, 1, 127, 128, maxRev - 1, maxRev} {
			all = append(all, answer(done, "", "", 0, at))
			for _, k := range []int{1, 2, maxKey - 1, maxKey} {
				for _, v := range []int{0, 1, 127, 128, maxValue - 1, maxValue} {
					all = append(all, answer(done, text(k, k), text(v, v), 0, at), answer(done, text(k, k), text(v, v), at/2, at), answer(done, text(k, k), text(v, v), at, at))
				}
			}
		}
	}
	return all
}

// soundMails are messages of each kind, at the ends of all that they have; the greatest copies apart.
func soundMails() []api.Mail {
	var all []api.Mail
	for _, shard := range []int{0, 1, maxShards - 2, maxShards - 1} {
		for shape := range shapes {
			all = append(all, one(shape), other(shape))
			all[len(all)-1].Shard, all[len(all)-2].Shard = shard, shard
		}
		for i, seq := range []int{1, 2, 127, 128, maxSeq - 1, maxSeq} {
			for _, client := range []int{0, 1, maxClients - 2, maxClients - 1} {
				server := (client + i) % maxServers
				for _, op := range soundOps() {
					all = append(all, request(client, server, shard, seq, op))
				}
				for _, a := range fitAnswers() {
					all = append(all, reply(server, client, shard, seq, a))
				}
				for hint := range maxServers {
					all = append(all, refusal(server, client, shard, seq, wrongOwner, hint), refusal(server, client, shard, seq, frozen, hint))
				}
				all = append(all, refusal(server, client, shard, seq, logFull, 0), refusal(server, client, shard, seq, diskFull, 0))
			}
		}
	}
	return append(all, soundTransfers()...)
}

// soundTransfers are those of them that belong to the handshake.
func soundTransfers() []api.Mail {
	var all []api.Mail
	for _, shard := range []int{0, 1, maxShards - 2, maxShards - 1} {
		for from := range maxServers {
			to := (from + 1 + shard%7) % maxServers
			for i, epoch := range []int{1, 2, 127, 128, maxEpoch - 1, maxEpoch} {
				for _, n := range []int{0, 1, 2, 127, 128, 500} {
					all = append(all, offer(from, to, shard, epoch, uint64(n)<<(i*11), text(n, n)))
				}
				for kind := 4; kind <= 8; kind++ {
					all = append(all, plain(kind, from, to, shard, epoch))
				}
			}
		}
	}
	return all
}

// fewMails are sound ones of all shapes whose forms are short, by which each place of a form can be gone over.
func fewMails() []api.Mail {
	all := []api.Mail{
		request(3, 1, 5, 300, put("a", "\x09")), request(15, 7, 63, maxSeq, swap("\x00", "\x00", maxRev)), request(1, 2, 3, 127, swap("key", "value", 128)),
		request(7, 7, 7, 128, seek("bc")), request(0, 6, 1, 1, del(text(maxKey, 1))), request(2, 0, 0, 1, put("k", text(128, 1))),
		reply(1, 3, 5, 300, answer(true, "a", "\x09", 2, 4)), reply(7, 15, 63, maxSeq, answer(false, "bc", "", maxRev, maxRev)), reply(2, 2, 2, 127, answer(true, "", "", 0, 1)),
		reply(1, 1, 1, 1, answer(false, "k", "v", 0, 0)), refusal(1, 3, 5, 300, frozen, 2), refusal(7, 0, 63, maxSeq, wrongOwner, 7),
		offer(0, 2, 5, 1, 258, "\x07\x07"), offer(7, 0, 63, maxEpoch, math.MaxUint64, text(130, 2)), offer(1, 2, 3, 128, 1<<63, "\x00"),
		plain(7, 2, 0, 63, 200), plain(4, 0, 7, 0, maxEpoch),
	}
	for shape := range shapes {
		all = append(all, one(shape), other(shape))
	}
	return all
}

// anySound is a sound message at random.
func anySound(dice *rand.Rand) api.Mail {
	shard, server, client := dice.Intn(maxShards), dice.Intn(maxServers), dice.Intn(maxClients)
	seq, epoch, to := 1+dice.Intn(1<<dice.Intn(31)), 1+dice.Intn(1<<dice.Intn(31)), (server+1+dice.Intn(maxServers-1))%maxServers
	key, value := text(1+dice.Intn(maxKey), dice.Int()), text(dice.Intn(maxValue+1), dice.Int())
	switch kind := 1 + dice.Intn(8); kind {
	case 1:
		return request(client, server, shard, seq, []api.Op{get(key), put(key, value), del(key), swap(key, value, dice.Intn(1<<dice.Intn(41)+1)), seek(key)}[dice.Intn(5)])
	case 2:
		if dice.Intn(2) == 0 {
			return refusal(server, client, shard, seq, []api.Errno{wrongOwner, frozen}[dice.Intn(2)], dice.Intn(maxServers))
		}
		at := dice.Intn(1<<dice.Intn(41) + 1)
		return reply(server, client, shard, seq, answer(dice.Intn(2) == 0, key, value, dice.Intn(at+1), at))
	case 3:
		return offer(server, to, shard, epoch, dice.Uint64(), text(dice.Intn(300), dice.Int()))
	default:
		return plain(kind, server, to, shard, epoch)
	}
}

// told is a message as a text, in which nil lists and empty ones are the same.
func told(m api.Mail) string {
	return fmt.Sprintf("kind %d, %d to %d, shard %d, epoch %d, root %d, client %d, seq %d, op %d %q %q %d, verdict %d, answer %v %q %q %d %d, hint %d, copy %q",
		m.Kind, m.From, m.To, m.Shard, m.Epoch, m.Root, m.Client, m.Seq, m.Op.Kind, m.Op.Key, m.Op.Value, m.Op.Rev,
		int(m.Verdict), m.Answer.Done, m.Answer.Key, m.Answer.Value, m.Answer.Rev, m.Answer.At, m.Hint, m.Copy)
}

// short is told without the end of a long one.
func short(m api.Mail) string {
	m.Copy = m.Copy[:min(len(m.Copy), 300)]
	s := told(m)
	return s[:min(len(s), 400)]
}

// start is the beginning of bytes, for telling.
func start(p []byte) []byte { return p[:min(len(p), 80)] }

func alike(a, b api.Mail) bool {
	numbers := a.Kind == b.Kind && a.From == b.From && a.To == b.To && a.Shard == b.Shard && a.Epoch == b.Epoch && a.Root == b.Root && a.Client == b.Client && a.Seq == b.Seq && a.Verdict == b.Verdict && a.Hint == b.Hint
	ops := a.Op.Kind == b.Op.Kind && bytes.Equal(a.Op.Key, b.Op.Key) && bytes.Equal(a.Op.Value, b.Op.Value) && a.Op.Rev == b.Op.Rev
	x, y := a.Answer, b.Answer
	answers := x.Done == y.Done && bytes.Equal(x.Key, y.Key) && bytes.Equal(x.Value, y.Value) && x.Rev == y.Rev && x.At == y.At
	return numbers && ops && answers && bytes.Equal(a.Copy, b.Copy)
}

// wantForm asks all three calls about a sound message and its form.
func wantForm(t *testing.T, m api.Mail, form []byte) {
	t.Helper()
	if !mail.Sound(m) {
		t.Fatalf("not Sound: %s", short(m))
	}
	if p, err := mail.Encode(m); err != api.OK || !bytes.Equal(p, form) {
		t.Fatalf("Encode of %s: %v, error %d; wanted %v", short(m), start(p), int(err), start(form))
	}
	if back, err := mail.Decode(form); err != api.OK || !alike(back, m) {
		t.Fatalf("Decode of the form of %s: %s, error %d", short(m), short(back), int(err))
	}
}

// wantUnsound asks the two calls that are handed a message.
func wantUnsound(t *testing.T, m api.Mail) {
	t.Helper()
	if mail.Sound(m) {
		t.Fatalf("Sound: %s", short(m))
	}
	if p, err := mail.Encode(m); err != 190 || len(p) != 0 {
		t.Fatalf("Encode of %s: %v, error %d", short(m), start(p), int(err))
	}
}

// wantRefused asks that Decode has this error, and answers no message beside it.
func wantRefused(t *testing.T, p []byte, wanted api.Errno) {
	t.Helper()
	if m, err := mail.Decode(p); err != wanted || !alike(m, api.Mail{}) {
		t.Fatalf("Decode of %v: %s, error %d; wanted %d", start(p), short(m), int(err), int(wanted))
	}
}

// wantNoForm asks that Decode refuses these bytes with their sum behind, by their form.
func wantNoForm(t *testing.T, body []byte) {
	t.Helper()
	wantRefused(t, summed(body), 190)
}

// wantAsTold asks about a message whatever the second telling says of it.
func wantAsTold(t *testing.T, m api.Mail) {
	t.Helper()
	if toldSound(m) {
		wantForm(t, m, toldForm(m))
	} else {
		wantUnsound(t, m)
	}
}

// wantReadAsTold asks Decode whatever the second telling says of the bytes.
func wantReadAsTold(t *testing.T, p []byte) {
	t.Helper()
	wanted, why := toldDecode(p)
	if m, err := mail.Decode(p); err != why || !alike(m, wanted) {
		t.Fatalf("Decode of %v: %s, error %d; wanted %s, error %d", start(p), short(m), int(err), short(wanted), int(why))
	}
}

// wantBodyAsTold does so with the sum behind.
func wantBodyAsTold(t *testing.T, body []byte) {
	t.Helper()
	wantReadAsTold(t, summed(body))
}
