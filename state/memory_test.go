package state_test

import (
	"slices"
	"testing"

	"haulage/api"
	"haulage/state"
)

// spoil writes one byte over a list, and over the room behind it.
func spoil(p []byte) {
	p = p[:cap(p)]
	for i := range p {
		p[i] = 0xEE
	}
}

func spoilAnswer(a api.Answer) {
	spoil(a.Key)
	spoil(a.Value)
}

// roomy is a list with room behind it, and all of that memory.
func roomy(s string) (list, all []byte) {
	all = append([]byte(s), "behind"...)
	return all[:len(s)], all
}

// P17.12, P0.4: an op's Key and Value are neither changed nor kept, the room behind them neither, by Apply, After and Peek.
func TestOpsHandedIn(t *testing.T) {
	for _, kind := range []int{api.OpPut, api.OpSwap} {
		for _, n := range []int{0, 1, 30, 256} {
			s, m := made(t, 0, 1, 2), begun(0, 1, 2)
			key, allKey := roomy("b")
			value, allValue := roomy(text(n, 1))
			op := api.Op{Kind: kind, Key: key, Value: value}
			s.After(write(1, 3, 1, op))
			s.Peek(1, 3, 1, op)
			m.apply(write(1, 3, 1, api.Op{Kind: kind, Key: []byte("b"), Value: []byte(text(n, 1))}))
			wantApply(t, s, write(1, 3, 1, op), yes("", "", 0, 1))
			s.Apply(write(1, 3, 1, op))
			s.Apply(write(0, 16, 1, op))
			wantBytes(t, "the key's memory", allKey, []byte("bbehind"))
			wantBytes(t, "the value's memory", allValue, []byte(text(n, 1)+"behind"))
			spoil(key)
			spoil(value)
			wantState(t, "behind it", s, m)
		}
	}
	for kind := range 7 {
		s, m := made(t, 0, 1, 2), begun(0, 1, 2)
		m.apply(write(0, 3, 1, put("b", "1")))
		s.Apply(write(0, 3, 1, put("b", "1")))
		key, all := roomy("b")
		op := api.Op{Kind: kind, Key: key}
		a, _, _ := s.Peek(0, 3, 2, op)
		wanted, _, _ := m.peek(0, 3, 2, api.Op{Kind: kind, Key: []byte("b")})
		s.After(write(0, 3, 2, op))
		done, _ := s.Apply(write(0, 3, 2, op))
		answer, _ := m.apply(write(0, 3, 2, api.Op{Kind: kind, Key: []byte("b")}))
		wantBytes(t, "the key's memory", all, []byte("bbehind"))
		spoil(key)
		if told(a) != told(wanted) || told(done) != told(answer) {
			t.Fatalf("kind %d: %s, %s, want %s, %s", kind, told(a), told(done), told(wanted), told(answer))
		}
		wantState(t, "behind it", s, m)
	}
}

// P17.12, P0.4: an Install's Copy is neither changed nor kept, taken or refused.
func TestCopiesHandedIn(t *testing.T) {
	for _, copied := range [][]byte{newCopy(), copyOf(9), copyAt(300, rowForm("a", text(200, 1), 3)), copyOf(9)[1:]} {
		s, m := made(t, 1, 3, 2), begun(1, 3, 2)
		p, all := roomy(string(copied))
		r := install(0, 1, 2, p)
		s.After(r)
		_, err := s.Apply(r)
		_, wanted := m.apply(install(0, 1, 2, copied))
		wantErr(t, "Install", err, wanted)
		wantBytes(t, "the copy's memory", all, append(slices.Clone(copied), "behind"...))
		spoil(p)
		wantState(t, "behind it", s, m)
	}
}

// P17.12, P0.4: the lists of a record that do not count are not changed either.
func TestOtherListsHandedIn(t *testing.T) {
	key, allKey := roomy("key")
	value, allValue := roomy(text(300, 1))
	copied, allCopied := roomy(string(copyOf(3)))
	for shard := range 8 {
		for kind := range 10 {
			for _, peer := range []int{0, 2} {
				s := stateOf(t, mixed())
				r := api.Record{Kind: kind, Shard: shard, Epoch: 80000, Peer: peer, Seq: 1, Op: api.Op{Kind: api.OpPut, Key: key, Value: value}, Copy: copied}
				s.After(r)
				s.Apply(r)
				s.Peek(shard, 0, 1, r.Op)
			}
		}
	}
	wantBytes(t, "the key's memory", allKey, []byte("keybehind"))
	wantBytes(t, "the value's memory", allValue, []byte(text(300, 1)+"behind"))
	wantBytes(t, "the copy's memory", allCopied, append(copyOf(3), "behind"...))
}

// P17.12, P0.4: the bytes that are read are neither changed nor kept.
func TestBytesHandedIn(t *testing.T) {
	for what, m := range someStates() {
		form := m.form()
		p, all := roomy(string(form))
		s := read(t, p)
		wantBytes(t, what+": the memory", all, append(slices.Clone(form), "behind"...))
		spoil(p)
		wantState(t, what, s, m)
		wrong, all := roomy(string(form[:len(form)-1]))
		wantNotRead(t, what+", cut off", wrong)
		wantBytes(t, what+": the memory of what was refused", all, append(slices.Clone(form[:len(form)-1]), "behind"...))
	}
}

// P17.12: the spare room behind what is handed in counts for nothing.
func TestSpareRoomUnread(t *testing.T) {
	form := mixed().form()
	wantNotRead(t, "the rest stands in the spare room", form[:len(form)-1])
	s := made(t, 1, 3, 1)
	wantRefused(t, s, install(0, 1, 2, copyOf(5)[:9]), api.ErrShardForm)
}

// P17.12: Bytes and Export are new memory, each time.
func TestBytesAreNew(t *testing.T) {
	m := mixed()
	s := stateOf(t, m)
	first, second := s.Bytes(), s.Bytes()
	spoil(first)
	wantBytes(t, "Bytes once more", second, m.form())
	for shard := range 7 {
		p, other := s.Export(shard), s.Export(shard)
		spoil(p)
		wantBytes(t, "Export once more", other, m.copies[shard])
	}
	wantState(t, "behind it", s, m)
	twin := read(t, second)
	spoil(second)
	wantState(t, "one that was read", twin, m)
}

// P17.12: what Apply and Peek answer is new memory: of a write, of one that was done, of a read; spoilt, it changes no state, and none that was read back.
func TestAnswersAreNew(t *testing.T) {
	for _, n := range []int{0, 1, 31, 33, 255, 256} {
		for _, op := range []api.Op{get("b"), seek("aa"), put("b", "new"), del("b"), swap("b", "new", 2), swap("b", "new", 1)} {
			m := begun(0, 1, 1).with(0, owned(0, 0), copyAt(9, rowForm("a", "0", 1), rowForm("b", text(n, 1), 2), rowForm("c", "1", 3)))
			s := stateOf(t, m)
			for range 3 {
				wanted, _, _ := m.peek(0, 4, 1, op)
				a, _, err := s.Peek(0, 4, 1, op)
				wantErr(t, "Peek", err, api.OK)
				if told(a) != told(wanted) {
					t.Fatalf("Peek: %s, want %s", told(a), told(wanted))
				}
				spoilAnswer(a)
			}
			wanted, why := m.apply(write(0, 4, 1, op))
			a, err := s.Apply(write(0, 4, 1, op))
			wantErr(t, "Apply", err, why)
			twin := read(t, s.Bytes())
			spoilAnswer(a)
			wantState(t, "behind the answer that is spoilt", s, m)
			wantState(t, "one that was read", twin, m)
			for range 3 {
				if why == api.OK {
					again, _, _ := s.Peek(0, 4, 1, get("b"))
					if told(again) != told(wanted) {
						t.Fatalf("said again: %s, want %s", told(again), told(wanted))
					}
					spoilAnswer(again)
				}
			}
			wantState(t, "behind them all", s, m)
		}
	}
}

// P0.4: no two lists of one answer share any memory.
func TestListsOfOneAnswer(t *testing.T) {
	s := stateOf(t, begun(0, 1, 1).with(0, owned(0, 0), copyAt(9, rowForm("ab", "ab", 1))))
	for _, op := range []api.Op{get("ab"), put("ab", "ab"), seek("a")} {
		a, _, _ := s.Peek(0, 4, 1, op)
		spoil(a.Key)
		wantBytes(t, "Value beside a spoilt Key", a.Value, []byte("ab"))
	}
	a, _ := s.Apply(write(0, 4, 1, put("ab", "new")))
	spoil(a.Value)
	wantBytes(t, "Key beside a spoilt Value", a.Key, []byte("ab"))
}

// P17.1, P17.12: states that were made of the same bytes, or of one copy, have nothing to do with one another.
func TestStatesShareNothing(t *testing.T) {
	m := mixed()
	form := m.form()
	states := []*state.State{read(t, form), read(t, form), read(t, form)}
	for i, s := range states[1:] {
		for seq := 50; seq < 60; seq++ {
			s.Apply(write(2, i, seq, put("k1", "new")))
			s.Apply(write(6, i, seq, put("k1", "new")))
		}
		s.Apply(plain(api.RecCommit, 1))
		s.Apply(plain(api.RecRelease, 3))
		s.Apply(install(4, 201, 2, newCopy()))
	}
	wantState(t, "the first", states[0], m)
	giver, taker := stateOf(t, m), made(t, 0, 3, 7)
	copied := giver.Export(2)
	wantTaken(t, taker, install(2, 1, 1, copied))
	wantTaken(t, taker, plain(api.RecOwn, 2))
	for seq := 50; seq < 60; seq++ {
		taker.Apply(write(2, 0, seq, put("k1", "new")))
	}
	wantState(t, "the giver", giver, m)
}
