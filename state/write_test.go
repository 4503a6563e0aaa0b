package state_test

import (
	"fmt"
	"testing"

	"haulage/api"
)

// P17.2: the answers of Writes of each kind of op, one behind the other, written out; and what the copy is then.
func TestWritesWrittenOut(t *testing.T) {
	s := made(t, 0, 1, 1)
	wantApply(t, s, write(0, 0, 1, put("a", "1")), yes("", "", 0, 1))
	wantApply(t, s, write(0, 0, 2, put("a", "2")), yes("a", "1", 1, 2))
	wantApply(t, s, write(0, 1, 9, swap("a", "3", 1)), no("a", "2", 2, 3))
	wantApply(t, s, write(0, 1, 10, swap("a", "3", 2)), yes("a", "2", 2, 4))
	wantApply(t, s, write(0, 15, maxSeq, del("b")), no("", "", 0, 5))
	wantApply(t, s, write(0, 0, 300, del("a")), yes("a", "3", 4, 6))
	copied := []byte{2, 6, 0, 3, 0, 172, 2, 1, 1, 97, 1, 51, 4, 6, 1, 10, 1, 1, 97, 1, 50, 2, 4, 15, 128, 128, 128, 128, 4, 0, 0, 0, 0, 5}
	wantBytes(t, "the copy", s.Export(0), copied)
	wantState(t, "behind them", s, begun(0, 1, 1).with(0, owned(0, 0), copied))
}

// P17.2: a Write's op must be a write, and right, whatever the client and the seq.
func TestWritesOfWrongOps(t *testing.T) {
	m := begun(1, 3, 3).with(2, owned(0, 1), copyAt(9, rowForm("a", "1", 3)))
	s := stateOf(t, m)
	ops := append(wrongOps(), get("a"), get(text(maxKey, 1)), seek(""), seek("a"), seek(text(maxKey+1, 1)))
	for _, op := range ops {
		for _, client := range []int{-1, 0, 3, 15, 16} {
			for _, seq := range []int{-1, 0, 1, 4, 5, 6, maxSeq, maxSeq + 1} {
				wantRefused(t, s, write(2, client, seq, op), api.ErrTabOp)
			}
		}
	}
	wantState(t, "behind them all", s, m)
}

// P17.2: clients and seqs at their edges; the seat of client 3 has the seq 5.
func TestWritesAtTheEdges(t *testing.T) {
	m := begun(1, 3, 3).with(2, owned(0, 1), copyAt(9))
	for _, client := range append(farNumbers(), -1, 0, 1, 3, 14, 15, 16, 17) {
		for _, seq := range append(farNumbers(), -1, 0, 1, 2, 4, 5, 6, 7, maxSeq-1, maxSeq, maxSeq+1) {
			wanted := api.OK
			switch {
			case client < 0 || client > 15 || seq < 1 || seq > maxSeq:
				wanted = api.ErrArg
			case client == 3 && seq <= 5:
				wanted = api.ErrShardOld
			}
			for _, op := range []api.Op{put("a", "1"), del("a"), swap("a", "1", 0), swap("a", "1", 7)} {
				next, s := m.clone(), stateOf(t, m)
				wantErr(t, fmt.Sprintf("client %d, seq %d", client, seq), wantAsTold(t, "a Write", s, &next, write(2, client, seq, op)), wanted)
				if wanted == api.OK {
					wantRefused(t, s, write(2, client, seq, op), api.ErrShardOld)
				} else {
					wantRefused(t, s, write(2, client, seq, op), wanted)
				}
			}
		}
	}
}

// P17.2: a Write is done once: said again, with whatever op that is a right write, it is ErrShardOld, and so are all older ones; the answer stays.
func TestWritesOnce(t *testing.T) {
	s := made(t, 0, 1, 2)
	for seq := 1; seq <= 20; seq += 3 {
		wantApply(t, s, write(1, 7, seq, put(fmt.Sprint(seq), "v")), yes("", "", 0, 1+seq/3))
		for older := 1; older <= seq; older++ {
			for _, op := range []api.Op{put(fmt.Sprint(seq), "v"), put("z", ""), del("1"), swap("1", "", 1)} {
				wantRefused(t, s, write(1, 7, older, op), api.ErrShardOld)
			}
		}
		wantPeek(t, s, 1, 7, seq, get("1"), yes("", "", 0, 1+seq/3), false)
	}
	wantApply(t, s, write(0, 7, 1, put("1", "v")), yes("", "", 0, 1))
	wantApply(t, s, write(1, 8, 1, put("1", "w")), yes("1", "v", 1, 8))
}

// P17.2: a seat moves with its copy: what was done elsewhere is not done again.
func TestWritesOnceElsewhere(t *testing.T) {
	m := begun(1, 3, 1)
	s := made(t, 1, 3, 1)
	for _, r := range []api.Record{install(0, 1, 0, copyAt(9)), plain(api.RecOwn, 0)} {
		wantErr(t, short(r), wantAsTold(t, "on its way", s, &m, r), api.OK)
	}
	for seq := 1; seq <= 5; seq++ {
		wantRefused(t, s, write(0, 3, seq, put("a", "")), api.ErrShardOld)
	}
	wantApply(t, s, write(0, 3, 6, put("a", "")), yes("", "", 0, 10))
}

// P17.2: at the end of revisions each write is ErrTabEnd; the last revision can be had.
func TestWritesAtTheEnd(t *testing.T) {
	s := stateOf(t, begun(0, 1, 1).with(0, owned(0, 0), copyAt(maxRev-1)))
	wantApply(t, s, write(0, 0, 1, put("a", "1")), yes("", "", 0, maxRev))
	for _, op := range []api.Op{put("a", "1"), del("a"), swap("a", "", maxRev), swap("b", "", 1)} {
		wantRefused(t, s, write(0, 0, 2, op), api.ErrTabEnd)
		wantRefused(t, s, write(0, 9, 2, op), api.ErrTabEnd)
	}
	wantRefused(t, s, write(0, 0, 1, put("a", "1")), api.ErrShardOld)
}

// P17.2: a copy has at most MaxCopy bytes: a Write behind which it would have more is ErrShardFull.
func TestWritesIntoFullCopies(t *testing.T) {
	oks, fulls := 0, 0
	for _, less := range []int{0, 1, 11, 12, 13, 14, 30, 280, 281, 282, 283} {
		m := begun(1, 3, 3).with(2, owned(4, 1), copyOfSize(maxCopy-less, 10000))
		for _, r := range []api.Record{write(2, 3, 6, put("k", "")), write(2, 4, 1, put("k", "")), write(2, 4, 1, put("k", text(maxValue, 1))), write(2, 3, 6, del("~0001")), write(2, 3, 6, del("none"))} {
			next := m.clone()
			switch err := wantAsTold(t, fmt.Sprint(less, " bytes are left"), stateOf(t, m), &next, r); err {
			case api.OK:
				oks++
			case api.ErrShardFull:
				fulls++
			default:
				t.Fatalf("%s: error %d", short(r), err)
			}
		}
	}
	if oks < 20 || fulls < 10 {
		t.Fatalf("%d went well, %d were too full", oks, fulls)
	}
	m := begun(0, 1, 1).with(0, owned(0, 0), copyOfSize(maxCopy, 10000))
	s := stateOf(t, m)
	wantRefused(t, s, write(0, 4, 1, put("k", "")), api.ErrShardFull)
	wantErr(t, "a row goes", wantAsTold(t, "full", s, &m, write(0, 3, 6, del("~0001"))), api.OK)
	wantErr(t, "another one", wantAsTold(t, "full no more", s, &m, write(0, 3, 7, del("~0002"))), api.OK)
	wantErr(t, "a row comes", wantAsTold(t, "full no more", s, &m, write(0, 4, 1, put("k", ""))), api.OK)
}
