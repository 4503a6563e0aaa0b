package state_test

import (
	"encoding/binary"
	"fmt"
	"math"
	"slices"
	"testing"

	"haulage/api"
	"haulage/jump"
)

// P17.1, P17.8: the forms of sound states are read, and the states tell what was laid down.
func TestReadOfForms(t *testing.T) {
	for what, m := range someStates() {
		wantBool(t, what, wantReadByWords(t, m.form()), true)
		wantState(t, what, stateOf(t, m), m)
	}
	for servers := 1; servers <= maxServers; servers++ {
		for server := range servers {
			wantBool(t, "a new state's", wantReadByWords(t, made(t, server, servers, 20).Bytes()), true)
		}
	}
}

// P17.1: a form written out, with a shard in each phase.
func TestReadWrittenOut(t *testing.T) {
	form := []byte{1, 3, 6,
		0, 0, 0, 0, 0, 0, 2, 3, 0, 0, 0, 2, 1, 0, 0, 0, 0, 1, 3, 0, 1, 0, 0, 0, 4, 255, 255, 255, 63, 2, 5, 0, 0, 0, 64, 0,
		4, 2, 0, 0, 0, 11, 2, 1, 0, 1, 7, 9, 0, 0, 0, 0, 1, 4, 2, 0, 0, 0, 4, 2, 5, 0, 0}
	s := read(t, form)
	for i, l := range []api.Ledger{absent(0), offered(3, 2), owned(0, 1), committed(256, 0), installed(maxEpoch-1, 2), released(maxEpoch, 0)} {
		wantLedger(t, s, i, l)
	}
	for i, c := range [][]byte{nil, newCopy(), {2, 1, 0, 1, 7, 9, 0, 0, 0, 0, 1}, newCopy(), {2, 5, 0, 0}, nil} {
		wantBytes(t, "the copy", s.Export(i), c)
	}
	wantBytes(t, "Bytes", s.Bytes(), form)
}

// P17.1: no beginning of a form is one, and no form with a byte more, ahead or behind; nothing is none.
func TestReadOfBeginningsAndMore(t *testing.T) {
	for what, m := range someStates() {
		form := m.form()
		for n := range form {
			wantNotRead(t, what+", a beginning", form[:n])
		}
		for b := range 256 {
			wantNotRead(t, what+", a byte behind", append(slices.Clone(form), byte(b)))
			wantReadByWords(t, append([]byte{byte(b)}, form...))
		}
		wantNotRead(t, what+", twice", slices.Concat(form, form))
		wantNotRead(t, what+", zeros behind", append(slices.Clone(form), make([]byte, 1000)...))
		wantNotRead(t, what+", a copy behind", append(slices.Clone(form), 4, 2, 0, 0, 0))
	}
	wantNotRead(t, "nil", nil)
	wantNotRead(t, "empty", []byte{})
	wantNotRead(t, "zeros", make([]byte, 9))
	wantNotRead(t, "many zeros", make([]byte, 1<<20))
}

// turnsOf are the bytes into which one of a form is turned: all, if the form is short or the byte stands in its head; else some at which something is decided.
func turnsOf(m telling, form []byte, i int) []byte {
	turns := []byte{0, 2, 5, 128, form[i] ^ 1, form[i] + 1}
	if len(form) > 400 || len(form) > 250 && i >= len(m.head()) {
		return turns
	}
	turns = nil
	for b := range 256 {
		turns = append(turns, byte(b))
	}
	return turns
}

// P17.1: each byte of a form turned: no form, or that of another state.
func TestReadOfTurnedBytes(t *testing.T) {
	sounds := 0
	for _, m := range someStates() {
		form := m.form()
		for i := range form {
			for _, b := range turnsOf(m, form, i) {
				p := slices.Clone(form)
				p[i] = b
				if wantReadByWords(t, p) && b != form[i] {
					sounds++
				}
			}
		}
	}
	if sounds < 1000 {
		t.Fatalf("only %d sound states were among them", sounds)
	}
}

// P17.1: two bytes turned at once, into those at which something is decided.
func TestReadOfTwiceTurnedBytes(t *testing.T) {
	sounds := 0
	letters := []byte{0, 1, 2, 3, 4, 5, 8, 64, 128}
	for _, m := range []telling{begun(0, 1, 1), begun(1, 3, 2), begun(1, 3, 3).with(0, released(1, 2), nil)} {
		form := m.form()
		for i := range form {
			for j := range i {
				for _, x := range letters {
					for _, y := range letters {
						p := slices.Clone(form)
						p[i], p[j] = x, y
						if wantReadByWords(t, p) {
							sounds++
						}
					}
				}
			}
		}
	}
	if sounds < 100 {
		t.Fatalf("only %d sound states were among them", sounds)
	}
}

// P17.1: a byte taken out of a form, put in, or two of them the other way round.
func TestReadOfBytesGoneAndCome(t *testing.T) {
	for _, m := range someStates() {
		form := m.form()
		if len(form) > 400 {
			continue
		}
		for i := range form {
			wantReadByWords(t, slices.Delete(slices.Clone(form), i, i+1))
			for _, b := range []byte{0, 1, 2, 3, 4, 5, 127, 128, 129, 255} {
				wantReadByWords(t, slices.Insert(slices.Clone(form), i, b))
			}
			if i > 0 {
				turned := slices.Clone(form)
				turned[i-1], turned[i] = turned[i], turned[i-1]
				wantReadByWords(t, turned)
			}
		}
	}
}

// P17.1: all bytes of few letters, up to a length at which states with a copy are among them.
func TestReadOfAllShortBytes(t *testing.T) {
	sounds := 0
	var grow func(p []byte, left int, letters []byte)
	grow = func(p []byte, left int, letters []byte) {
		if wantReadByWords(t, p) {
			sounds++
		}
		for _, b := range letters {
			if left > 0 {
				grow(append(p[:len(p):len(p)], b), left-1, letters)
			}
		}
	}
	grow(nil, 9, []byte{0, 1, 2})
	grow([]byte{0, 1, 1}, 8, []byte{0, 1, 5})
	grow([]byte{0, 2, 1, 5, 1}, 5, []byte{0, 1, 2, 4, 64, 128})
	grow([]byte{1, 2, 1, 1, 1, 0, 0, 0, 1}, 5, []byte{0, 1, 2, 3, 4, 128})
	grow([]byte{0, 1, 1, 1, 0, 0, 0, 0, 0}, 5, []byte{0, 1, 2, 3, 4, 128})
	if sounds < 50 {
		t.Fatalf("only %d sound states were among them", sounds)
	}
}

// P17.1: the first three numbers, at their edges and beyond, with as many ledgers behind them as they tell.
func TestReadOfHeads(t *testing.T) {
	sounds := 0
	for server := range 12 {
		for servers := range 12 {
			for _, shards := range []int{0, 1, 2, 63, 64, 65, 66, 128, 255} {
				m := telling{server: server, servers: servers}
				for i := range shards {
					home := max(jump.Home(i, servers), 0)
					m.ledgers = append(m.ledgers, absent(home))
					m.copies = append(m.copies, nil)
					if home == server {
						m = m.with(i, owned(0, server), newCopy())
					}
				}
				ok := servers >= 1 && servers <= 8 && server < servers && shards >= 1 && shards <= 64
				wantBool(t, fmt.Sprintf("%d of %d, %d shards", server, servers, shards), wantReadByWords(t, m.form()), ok)
				if ok {
					sounds++
				}
				for _, far := range []byte{127, 128, 129, 255} {
					for i := range 2 {
						p := m.form()
						p[i] = far
						wantNotRead(t, "a number far beyond", p)
					}
				}
			}
		}
	}
	wantNum(t, "sound ones", sounds, 36*4)
}

// epochsAtEdges are epochs that four bytes can tell.
func epochsAtEdges() []int {
	return []int{0, 1, 2, 255, 256, 1 << 16, 1 << 24, maxEpoch - 2, maxEpoch - 1, maxEpoch, maxEpoch + 1, 1<<31 - 1, 1 << 31, math.MaxUint32 - 1, math.MaxUint32}
}

// P17.1: each ledger, at each server: not sound there, with a Peer that is none of the servers, Absent with another Peer than the home, Owned with epoch 0 elsewhere; and the sound ones.
func TestReadOfLedgers(t *testing.T) {
	sounds := 0
	for _, servers := range []int{1, 2, 3, 7, 8} {
		for server := range servers {
			for _, phase := range []int{0, 1, 2, 3, 4, 5, 6, 7, 128, 255} {
				for _, epoch := range epochsAtEdges() {
					for _, peer := range []int{0, 1, 2, 3, 6, 7, 8, 9, 128, 255} {
						l := api.Ledger{Phase: phase, Epoch: epoch, Peer: peer}
						for shard := range 3 {
							m := begun(server, servers, 3).with(shard, l, copyOf(2))
							if wantReadByWords(t, m.form()) {
								sounds++
							}
						}
					}
				}
			}
		}
	}
	if sounds < 5000 {
		t.Fatalf("only %d sound states were among them", sounds)
	}
}

// P17.1: ledgers that are wrong by one thing alone, written out: server 1 out of 3; the homes of the shards 0 to 2 are 0, 0 and 1.
func TestReadOfWrongLedgers(t *testing.T) {
	m := begun(1, 3, 3)
	for what, l := range map[string]api.Ledger{
		"a phase that is none":               {Phase: 6, Epoch: 1, Peer: 2},
		"Absent, another peer than the home": absent(2),
		"Absent, itself":                     absent(1),
		"Absent, a peer beyond":              absent(3),
		"Absent with an epoch":               {Phase: 0, Epoch: 1, Peer: 0},
		"Owned from the beginning elsewhere": owned(0, 1),
		"Owned, another peer":                owned(1, 2),
		"Owned, beyond all epochs":           owned(maxEpoch+1, 1),
		"Offered with epoch 0":               offered(0, 2),
		"Offered with the last epoch":        offered(maxEpoch, 2),
		"Offered to itself":                  offered(1, 1),
		"Offered to one beyond":              offered(1, 3),
		"Committed with epoch 0":             committed(0, 2),
		"Committed to itself":                committed(1, 1),
		"Committed to one beyond":            committed(1, 3),
		"Committed beyond all epochs":        committed(maxEpoch+1, 2),
		"Installed with epoch 0":             installed(0, 2),
		"Installed from itself":              installed(1, 1),
		"Installed from one beyond":          installed(1, 7),
		"Released with epoch 0":              released(0, 2),
		"Released to itself":                 released(1, 1),
		"Released to one beyond":             released(1, 3),
		"Released to one beyond all":         released(1, 8),
	} {
		for shard := range 2 {
			wantNotRead(t, what, m.with(shard, l, newCopy()).form())
		}
	}
	wantNotRead(t, "Absent at its home, itself", m.with(2, absent(1), nil).form())
	wantNotRead(t, "Absent at its home, another", m.with(2, absent(0), nil).form())
	for _, l := range []api.Ledger{absent(0), owned(1, 1), owned(maxEpoch, 1), offered(1, 0), offered(maxEpoch-1, 2), committed(1, 2), committed(maxEpoch, 0), installed(1, 2), installed(maxEpoch, 0), released(1, 2), released(maxEpoch, 0)} {
		for shard := range 2 {
			wantState(t, fmt.Sprint("a right one: ", l), read(t, m.with(shard, l, newCopy()).form()), m.with(shard, l, newCopy()))
		}
	}
}

// P17.1: copies that are no sound shards, in the place of each copy.
func TestReadOfWrongCopies(t *testing.T) {
	for i, wrong := range wrongCopies() {
		for shard := range 7 {
			m := mixed()
			if m.copies[shard] == nil {
				continue
			}
			m.copies[shard] = append([]byte{}, wrong...)
			wantNotRead(t, fmt.Sprint("wrong copy ", i), m.form())
		}
	}
}

// P17.1: a copy too many, a copy too few, and the copies one behind the other in another order than the shards.
func TestReadOfCopiesTooManyAndTooFew(t *testing.T) {
	m := mixed()
	for shard := range 7 {
		other := m.clone()
		if m.copies[shard] == nil {
			other.copies[shard] = newCopy()
			wantNotRead(t, "a copy too many", other.form())
			continue
		}
		other.copies[shard] = nil
		wantNotRead(t, "a copy too few", other.form())
		other.copies[shard] = []byte{}
		wantNotRead(t, "a copy of nothing", other.form())
	}
	wantNotRead(t, "no copies", m.head())
	for phase := range 6 {
		l := api.Ledger{Phase: phase, Epoch: 1, Peer: 0}
		if phase == api.Absent {
			l.Epoch = 0
		}
		if phase == api.Owned {
			l.Peer = 1
		}
		one := begun(1, 3, 1).with(0, l, nil)
		wantBool(t, fmt.Sprintf("phase %d without a copy", phase), wantReadByWords(t, one.head()), phase == api.Absent || phase == api.Released)
		wantBool(t, fmt.Sprintf("phase %d with a copy", phase), wantReadByWords(t, append(one.head(), 4, 2, 0, 0, 0)), phase != api.Absent && phase != api.Released)
		wantNotRead(t, "two copies", append(one.head(), 4, 2, 0, 0, 0, 4, 2, 0, 0, 0))
	}
	turned := m.clone()
	turned.copies[1], turned.copies[4] = m.copies[4], m.copies[1]
	wantState(t, "the copies the other way round", stateOf(t, turned), turned)
}

// P17.1: a copy's length that is not in its shortest form, or that no bytes stand behind.
func TestReadOfLengths(t *testing.T) {
	head := begun(0, 1, 1).head()
	wantBool(t, "as it should be", wantReadByWords(t, append(slices.Clone(head), 4, 2, 0, 0, 0)), true)
	for _, wrong := range [][]byte{{132, 0}, {132, 128, 0}, {132, 128, 128, 128, 128, 128, 128, 128, 128, 0}} {
		wantNotRead(t, "a length that is too long", slices.Concat(head, wrong, newCopy()))
	}
	for _, n := range []uint64{0, 1, 2, 3, 5, 6, 127, 128, maxCopy, maxCopy + 1, 1 << 32, 1<<32 + 4, 1 << 62, 1 << 63, 1<<63 + 4, math.MaxUint64} {
		wantNotRead(t, fmt.Sprint("a length of ", n), slices.Concat(head, binary.AppendUvarint(nil, n), newCopy()))
	}
	wantNotRead(t, "a length beyond all", slices.Concat(head, []byte{255, 255, 255, 255, 255, 255, 255, 255, 255, 2}, newCopy()))
}

// P17.1: copies of the greatest size, and one byte more.
func TestReadOfGreatestCopies(t *testing.T) {
	full := copyOfSize(maxCopy, maxRev)
	m := begun(0, 1, 3).with(1, owned(0, 0), full)
	wantState(t, "a full copy", stateOf(t, m), m)
	wantNotRead(t, "a copy too full", m.with(1, owned(0, 0), copyOfSize(maxCopy+1, maxRev)).form())
	most := begun(0, 1, maxShards)
	for i := range maxShards {
		most.copies[i] = full
	}
	s := stateOf(t, most)
	wantNum(t, "the greatest Size", s.Size(), 3+64*6+64*(3+maxCopy))
	wantBytes(t, "the greatest form", s.Bytes(), most.form())
	most.copies[63] = copyOfSize(maxCopy+1, maxRev)
	wantNotRead(t, "the last copy is too full", most.form())
}
