package server_test

import (
	"math/rand"
	"testing"

	"haulage/api"
)

// ticks are so many of them.
func (p *pair) ticks(n int) {
	p.t.Helper()
	for range n {
		_, err := p.tick()
		wantErr(p.t, "Tick", err, api.OK)
	}
}

// epochOf is a shard's.
func (p *pair) epochOf(shard int) int {
	p.t.Helper()
	l, err := p.o.Ledger(shard)
	wantErr(p.t, "Ledger", err, api.OK)
	return l.Epoch
}

// other is a server that is not this one.
func (p *pair) other() int { return (p.number + 1) % p.s.Servers }

// setOut has a shard be offered.
func (p *pair) setOut(shard int) {
	p.t.Helper()
	_, err := p.move(shard, p.other())
	wantErr(p.t, "Move", err, api.OK)
}

// arrive has a shard that was offered be taken over by the other server.
func (p *pair) arrive(shard int) {
	p.t.Helper()
	p.hear(plain(4, p.other(), p.number, shard, p.epochOf(shard)))
	p.hear(plain(6, p.other(), p.number, shard, p.epochOf(shard)))
}

// comeBack has a shard be given back by the other server.
func (p *pair) comeBack(shard int) {
	p.t.Helper()
	epoch := p.epochOf(shard) + 1
	p.hear(offerOf(p.t, p.other(), p.number, shard, epoch, emptyCopy()))
	p.hear(plain(5, p.other(), p.number, shard, epoch))
	wantLedger(p.t, "it is back", p.o, shard, owned(epoch, p.number))
}

// P22.7: a way lasts from the Offer to the Release, whenever it was committed, and whatever is heard meanwhile; each shard has its own.
func TestSpans(t *testing.T) {
	p := pairOf(t, 1, 3, knownOf(owned(4, 1), owned(4, 1), owned(4, 1))...)
	wantSpans(t, "at first", p.o)
	p.ticks(2)
	p.setOut(0)
	p.ticks(3)
	p.setOut(2)
	p.ticks(4)
	wantSpans(t, "under way", p.o)
	p.arrive(2)
	wantSpans(t, "shard 2 has gone", p.o, 4)
	p.hear(plain(4, 2, 1, 0, 5))
	p.ticks(5)
	p.hear(plain(4, 2, 1, 0, 5))
	p.hear(plain(6, 2, 1, 0, 4))
	p.hear(plain(6, 0, 1, 0, 5))
	wantSpans(t, "shard 0 is committed", p.o, 4)
	p.hear(plain(6, 2, 1, 0, 5))
	wantLedger(t, "shard 0", p.o, 0, released(5, 2))
	wantSpans(t, "shard 0 has gone", p.o, 4, 12)
	p.hear(plain(6, 2, 1, 0, 5))
	p.ticks(3)
	p.hear(plain(6, 2, 1, 0, 5))
	wantSpans(t, "its end is heard again", p.o, 4, 12)
	p.setOut(1)
	p.arrive(1)
	wantSpans(t, "shard 1 has gone at once", p.o, 0, 4, 12)
}

// P22.7: a way that is cancelled has no span, by whom ever; the next one begins anew.
func TestSpansOfCancelled(t *testing.T) {
	cancels := []func(p *pair){
		func(p *pair) { wantErr(t, "Cancel", p.cancel(0), api.OK) },
		func(p *pair) { p.wantHeard(plain(8, 2, 1, 0, p.epochOf(0))) },
	}
	for _, cancel := range cancels {
		p := pairOf(t, 1, 3, knownOf(owned(4, 1), owned(4, 1))...)
		p.setOut(0)
		p.setOut(1)
		p.ticks(7)
		cancel(p)
		wantLedger(t, "cancelled", p.o, 0, owned(6, 1))
		wantSpans(t, "cancelled", p.o)
		p.ticks(2)
		p.setOut(0)
		p.ticks(1)
		p.arrive(0)
		wantSpans(t, "gone the next time", p.o, 1)
		p.arrive(1)
		wantSpans(t, "the other one has gone", p.o, 1, 10)
	}
}

// P22.5, P22.7: a Move or a Cancel that is refused leaves the way of a shard as it was.
func TestSpansBehindRefusals(t *testing.T) {
	p := pairOf(t, 1, 3, knownOf(owned(4, 1), released(5, 2))...)
	p.setOut(0)
	p.ticks(3)
	for _, to := range []int{0, 1, 2, 3, -1} {
		_, err := p.move(0, to)
		if err == api.OK {
			t.Fatalf("Move of a shard under way to %d: OK", to)
		}
	}
	p.hear(plain(4, 2, 1, 0, 5))
	wantErr(t, "Cancel", p.cancel(0), errLedgerPhase)
	_, err := p.move(0, 2)
	wantErr(t, "Move", err, errLedgerPhase)
	p.move(1, 2)
	p.cancel(1)
	p.ticks(1)
	p.hear(plain(6, 2, 1, 0, 5))
	wantSpans(t, "behind refusals", p.o, 4)
}

// P22.7: a shard that is given up without having been offered has no way: one that was installed and is forgotten.
func TestSpansOfForgotten(t *testing.T) {
	p := pairOf(t, 1, 3, knownOf(released(4, 2))...)
	p.ticks(2)
	p.wantHeard(offerOf(t, 2, 1, 0, 5, emptyCopy()), plain(4, 1, 2, 0, 5))
	p.ticks(2)
	p.wantHeard(plain(7, 2, 1, 0, 5))
	wantLedger(t, "forgotten", p.o, 0, released(5, 2))
	wantSpans(t, "forgotten", p.o)
}

// P22.7: a way that began in an earlier life has no span, whether the power went ahead of HAVE or of MINE; those that begin in this one do.
func TestSpansOfEarlierLives(t *testing.T) {
	for _, isCommitted := range []bool{false, true} {
		p := pairOf(t, 1, 3, knownOf(owned(4, 1), owned(4, 1))...)
		p.setOut(0)
		p.ticks(3)
		if isCommitted {
			p.hear(plain(4, 2, 1, 0, 5))
		}
		wantErr(t, "Open", p.open(), api.OK)
		p.setOut(1)
		p.ticks(2)
		p.arrive(0)
		wantLedger(t, "gone", p.o, 0, released(5, 2))
		wantSpans(t, "gone", p.o)
		p.arrive(1)
		wantSpans(t, "the other one has gone", p.o, 2)
		p.comeBack(0)
		p.ticks(1)
		p.setOut(0)
		p.ticks(5)
		p.arrive(0)
		wantSpans(t, "gone once more", p.o, 2, 5)
	}
}

// P22.7: a dead server tells the spans that were counted, and no more; a call of which it dies ends no way.
func TestSpansOfDead(t *testing.T) {
	for fuse := range 2 {
		p := pairOf(t, 1, 3, knownOf(owned(4, 1), owned(4, 1))...)
		p.setOut(0)
		p.ticks(2)
		p.setOut(1)
		p.ticks(1)
		p.arrive(1)
		p.hear(plain(4, 2, 1, 0, 5))
		p.fuse(fuse)
		_, err := p.hear(plain(6, 2, 1, 0, 5))
		wantErr(t, "MINE without power", err, errEngDead)
		wantSpans(t, "a dead one", p.o, 1)
		p.hear(plain(6, 2, 1, 0, 5))
		p.cancel(0)
		wantSpans(t, "a dead one", p.o, 1)
	}
}

// P22.7: many ways of many shards: the sketch, with the inverse 32, answers as the telling's own, rank by rank, whether it was pressed or not.
func TestManySpans(t *testing.T) {
	r := rand.New(rand.NewSource(227))
	const shards = 8
	row := make([]known, shards)
	for i := range row {
		row[i].l = owned(4, 1)
	}
	p := pairOf(t, 1, 2, row...)
	for n := 0; n < 700; {
		shard := r.Intn(shards)
		switch l, _ := p.o.Ledger(shard); {
		case l.Phase == api.Released:
			p.comeBack(shard)
		case l.Phase == api.Owned:
			p.setOut(shard)
		case r.Intn(8) == 0:
			wantErr(t, "Cancel", p.cancel(shard), api.OK)
		default:
			p.arrive(shard)
			n++
		}
		p.ticks(r.Intn(3) * r.Intn(3) * r.Intn(4))
	}
	wantNum(t, "Spans", p.o.Spans(), 700)
	differs := 0
	first, _ := p.o.Span(1)
	for rank := 1; rank <= 700; rank++ {
		if n, _ := p.o.Span(rank); n != first {
			differs++
		}
	}
	if differs < 300 {
		t.Fatalf("%d of the spans are not %d", differs, first)
	}
}
