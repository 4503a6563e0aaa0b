package state_test

import (
	"fmt"
	"slices"
	"testing"

	"haulage/api"
)

// takers are states of server 1 out of 3 whose shard 0 takes an Install of an epoch from 10 on.
func takers() map[string]telling {
	return map[string]telling{
		"Absent":    begun(1, 3, 3),
		"Released":  begun(1, 3, 3).with(0, released(9, 0), nil),
		"Installed": begun(1, 3, 3).with(0, installed(9, 0), copyOf(8)),
	}
}

// P17.2: copies that are taken, of many sizes, in the place of an earlier one or of none.
func TestInstallOfCopies(t *testing.T) {
	copies := [][]byte{newCopy(), copyOf(1), copyOf(30), copyAt(maxRev), copyOfSize(16384, 10000), copyOfSize(maxCopy, 10000)}
	for what, m := range takers() {
		for _, copied := range copies {
			s := stateOf(t, m)
			next := m.clone()
			wantErr(t, what, wantAsTold(t, what, s, &next, install(0, 10, 2, copied)), api.OK)
			wantState(t, what, s, m.with(0, installed(10, 2), copied))
			for i, other := range copies {
				wantErr(t, what, wantAsTold(t, what+", and another one over it", s, &next, install(0, 11+i, 0, other)), api.OK)
				wantState(t, what+", and another one over it", s, m.with(0, installed(11+i, 0), other))
			}
		}
	}
}

// P17.2: what is no form of a sound shard is ErrShardForm: each wrong copy, each beginning of a right one, and it with a byte more.
func TestInstallOfWrongCopies(t *testing.T) {
	good := copyOf(5)
	wrong := wrongCopies()
	for n := range good {
		wrong = append(wrong, good[:n])
	}
	for b := range 256 {
		wrong = append(wrong, append(slices.Clone(good), byte(b)))
	}
	for what, m := range takers() {
		s := stateOf(t, m)
		for i, copied := range wrong {
			wantErr(t, fmt.Sprint(what, ": wrong copy ", i), wantAsTold(t, what, s, &m, install(0, 10, 2, copied)), api.ErrShardForm)
		}
		wantState(t, what+": behind them all", s, m)
	}
}

// P17.2: each byte of a copy turned: it is taken just if layer 14 takes it.
func TestInstallOfTurnedCopies(t *testing.T) {
	good := copyOf(3)
	taken := 0
	m := begun(1, 3, 1)
	for i := range good {
		for _, b := range []byte{0, 1, 2, 3, 4, 15, 16, 97, 128, 255, good[i] ^ 1, good[i] ^ 128} {
			copied := slices.Clone(good)
			copied[i] = b
			next := m.clone()
			if wantAsTold(t, "a turned copy", stateOf(t, m), &next, install(0, 1, 2, copied)) == api.OK {
				taken++
			}
		}
	}
	if taken < 50 {
		t.Fatalf("only %d of them were taken", taken)
	}
}

// P17.2: behind an Install the copy does not serve, and behind an Own it goes on where it was.
func TestInstalledGoesOn(t *testing.T) {
	s := made(t, 1, 3, 1)
	wantTaken(t, s, install(0, 7, 2, copyAt(9, rowForm("a", "1", 3))))
	wantRefused(t, s, write(0, 3, 6, put("a", "2")), api.ErrLedgerPhase)
	wantNoPeek(t, s, 0, 3, 5, get("a"), api.ErrLedgerPhase)
	wantTaken(t, s, plain(api.RecOwn, 0))
	wantPeek(t, s, 0, 3, 5, get("a"), yes("", "", 0, 9), false)
	wantPeek(t, s, 0, 3, 6, get("a"), yes("a", "1", 3, 9), false)
	wantApply(t, s, write(0, 3, 6, put("a", "2")), yes("a", "1", 3, 10))
	wantTaken(t, s, offer(0, 0))
	wantLedger(t, s, 0, offered(8, 0))
}

// P17.2: behind a Release and a Forget there is no copy; what comes back is the copy that was handed in, not the one that went.
func TestCopiesGo(t *testing.T) {
	m := begun(1, 3, 2).with(0, committed(9, 2), copyOf(8)).with(1, installed(9, 2), copyOf(8))
	s := stateOf(t, m)
	wantTaken(t, s, plain(api.RecRelease, 0))
	wantTaken(t, s, plain(api.RecForget, 1))
	wantState(t, "both gone", s, m.with(0, released(9, 2), nil).with(1, released(9, 2), nil))
	for shard := range 2 {
		wantRefused(t, s, plain(api.RecOwn, shard), api.ErrLedgerPhase)
		wantTaken(t, s, install(shard, 10, 0, newCopy()))
		wantBytes(t, "the copy", s.Export(shard), newCopy())
	}
}
