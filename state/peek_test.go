package state_test

import (
	"fmt"
	"testing"

	"haulage/api"
)

// P17.4: each kind of op in each phase, of clients with a seat and without, of seqs that were done and that were not.
func TestPeekInEachPhase(t *testing.T) {
	m := mixed()
	s := stateOf(t, m)
	met := map[api.Errno]int{}
	ops := append(oneOfEach("k1"), wrongOps()...)
	for shard := -1; shard <= 7; shard++ {
		for _, client := range []int{-1, 0, 2, 15, 16} {
			for _, seq := range []int{0, 1, 3, 7, 8, 9, 10, maxSeq, maxSeq + 1} {
				for _, op := range ops {
					met[wantPeekAsTold(t, s, m, shard, client, seq, op)]++
				}
			}
		}
	}
	for _, err := range []api.Errno{api.OK, api.ErrStateShard, api.ErrLedgerPhase, api.ErrArg, api.ErrTabOp, api.ErrShardOld} {
		wantBool(t, fmt.Sprint("error ", err, " was met"), met[err] > 50, true)
	}
	wantState(t, "behind them all", s, m)
}

// P17.4: what is not Owned is not answered out of, whatever else is asked; a shard that there isn't comes first.
func TestPeekOfWhatDoesNotServe(t *testing.T) {
	for _, l := range []api.Ledger{absent(0), offered(1, 0), committed(1, 2), installed(1, 0), released(1, 2)} {
		s := stateOf(t, begun(1, 3, 1).with(0, l, copyAt(9)))
		for _, op := range []api.Op{get("a"), put("a", "1"), {Kind: 9}} {
			for _, seq := range []int{0, 1, 5, 6} {
				wantNoPeek(t, s, 0, 3, seq, op, api.ErrLedgerPhase)
				wantNoPeek(t, s, 0, 16, seq, op, api.ErrLedgerPhase)
				for _, shard := range append(farNumbers(), -1, 1, 64) {
					wantNoPeek(t, s, shard, 3, seq, op, api.ErrStateShard)
				}
			}
		}
	}
}

// P17.4: what Peek answers, written out: the seat's answer of the last seq, the rows for a read above it, what a write would answer; and a Write's own answer is what Peek said ahead of it.
func TestPeekWrittenOut(t *testing.T) {
	s := stateOf(t, begun(0, 1, 1).with(0, owned(0, 0), copyAt(9, rowForm("a", "1", 3), rowForm("b", "", 4))))
	for _, op := range []api.Op{get("a"), put("a", "2"), del("zz"), seek("")} {
		wantPeek(t, s, 0, 3, 5, op, yes("", "", 0, 9), false)
		wantNoPeek(t, s, 0, 3, 4, op, api.ErrShardOld)
	}
	wantPeek(t, s, 0, 3, 6, get("a"), yes("a", "1", 3, 9), false)
	wantPeek(t, s, 0, 0, 1, get("c"), no("", "", 0, 9), false)
	wantPeek(t, s, 0, 0, 1, seek("a\x00"), yes("b", "", 4, 9), false)
	wantPeek(t, s, 0, 0, 1, put("a", "2"), yes("a", "1", 3, 10), true)
	wantPeek(t, s, 0, 0, 1, put("c", "2"), yes("", "", 0, 10), true)
	wantPeek(t, s, 0, 0, 1, del("b"), yes("b", "", 4, 10), true)
	wantPeek(t, s, 0, 0, 1, del("c"), no("", "", 0, 10), true)
	wantPeek(t, s, 0, 0, 1, swap("a", "2", 4), no("a", "1", 3, 10), true)
	wantPeek(t, s, 0, 0, 1, swap("a", "2", 3), yes("a", "1", 3, 10), true)
	wantApply(t, s, write(0, 0, 1, swap("a", "2", 3)), yes("a", "1", 3, 10))
	wantPeek(t, s, 0, 0, 1, get("a"), yes("a", "1", 3, 10), false)
	wantPeek(t, s, 0, 0, 2, get("a"), yes("a", "2", 10, 10), false)
}

// P17.4: a write that could not be done has its error, and a read beside it is answered.
func TestPeekAtTheEnd(t *testing.T) {
	end := stateOf(t, begun(0, 1, 1).with(0, owned(0, 0), copyAt(maxRev)))
	wantNoPeek(t, end, 0, 3, 6, put("a", "1"), api.ErrTabEnd)
	wantPeek(t, end, 0, 3, 5, put("a", "1"), yes("", "", 0, maxRev), false)
	wantPeek(t, end, 0, 3, 6, get("a"), no("", "", 0, maxRev), false)
	full := stateOf(t, begun(0, 1, 1).with(0, owned(0, 0), copyOfSize(maxCopy, 10000)))
	wantNoPeek(t, full, 0, 4, 1, put("a", "1"), api.ErrShardFull)
	wantPeek(t, full, 0, 4, 1, get("a"), no("", "", 0, 10000), false)
}

// P17.4: a Peek of a write does nothing: asked again it says the same, and another Write has that revision.
func TestPeekDoesNothing(t *testing.T) {
	s, m := made(t, 0, 1, 2), begun(0, 1, 2)
	for i := range 30 {
		for range 3 {
			wantPeekAsTold(t, s, m, i%2, 4, 1+i, put("a", "peeked"))
			wantPeekAsTold(t, s, m, i%2, 4, 1+i, get("a"))
		}
		wantErr(t, "a Write", wantAsTold(t, "a Write", s, &m, write(i%2, 4, 1+i, put("a", fmt.Sprint(i)))), api.OK)
	}
	wantState(t, "behind them all", s, m)
}
