package server_test

import (
	"fmt"
	"testing"

	"haulage/api"
)

// call is one that writes: what it finds, and what it makes of it.
type call struct {
	what      string
	was, then api.Ledger
	on        func(p *pair) ([]api.Letter, api.Errno)
}

// callsThatWrite are those of each kind of record, at server 1 of three, of shard 0 of three.
func callsThatWrite(t *testing.T) []call {
	t.Helper()
	hears := func(m api.Mail) func(p *pair) ([]api.Letter, api.Errno) {
		return func(p *pair) ([]api.Letter, api.Errno) { return p.hear(m) }
	}
	return []call{
		{"a write", owned(5, 1), owned(5, 1), hears(ask(1, 3, 1, 0, put(keyOf(0, 3, 0), "1")))},
		{"Move", owned(5, 1), offered(6, 2), func(p *pair) ([]api.Letter, api.Errno) { return p.move(0, 2) }},
		{"Cancel", offered(5, 2), owned(6, 1), func(p *pair) ([]api.Letter, api.Errno) { return nil, p.cancel(0) }},
		{"OFFER", released(4, 2), installed(5, 2), hears(offerOf(t, 2, 1, 0, 5, emptyCopy()))},
		{"HAVE", offered(5, 2), committed(5, 2), hears(plain(4, 2, 1, 0, 5))},
		{"COMMIT", installed(5, 2), owned(5, 1), hears(plain(5, 2, 1, 0, 5))},
		{"MINE", committed(5, 2), released(5, 2), hears(plain(6, 2, 1, 0, 5))},
		{"CANCEL", installed(5, 2), released(5, 2), hears(plain(7, 2, 1, 0, 5))},
		{"FULL", offered(5, 2), owned(6, 1), hears(plain(8, 2, 1, 0, 5))},
	}
}

// wantDead asks that each call that answers ErrEngDead does so, with nothing beside it, ahead of all other errors; and that all else is told as it was.
func wantDead(t *testing.T, what string, p *pair) {
	t.Helper()
	clock, loads, spans := p.o.Clock(), p.o.Loads(), p.o.Spans()
	image, pending := p.d.Image(), p.d.Pending()
	for range 2 {
		for _, data := range [][]byte{nil, {1, 2, 3}, form(t, ask(0, 3, 1, 0, seek(""))), form(t, ask(1, 3, 1, 0, seek(""))), form(t, ask(1, 3, 9, 0, put(keyOf(0, 3, 0), "1"))), form(t, refused(ask(1, 3, 1, 0, seek("")), errLogFull, 0)), form(t, plain(4, 2, 1, 0, 5)), form(t, plain(4, 2, 0, 0, 5)), form(t, offerOf(t, 2, 1, 0, 9, emptyCopy()))} {
			said, err := p.hearData(what, data)
			wantNone(t, what+": Hear", said, err, errEngDead)
		}
		said, err := p.tick()
		wantNone(t, what+": Tick", said, err, errEngDead)
		for _, shard := range []int{0, 1, 3, -1, 64} {
			said, err = p.move(shard, 2)
			wantNone(t, what+": Move", said, err, errEngDead)
			wantErr(t, what+": Cancel", p.cancel(shard), errEngDead)
			l, err := p.o.Ledger(shard)
			wantErr(t, what+": Ledger", err, errEngDead)
			if l != (api.Ledger{}) {
				t.Fatalf("%s: Ledger: %v", what, l)
			}
			wantBytes(t, what+": Export", p.o.Export(shard), nil)
		}
		if !p.o.Dead() {
			t.Fatalf("%s: it is not dead", what)
		}
		wantBytes(t, what+": Bytes", p.o.Bytes(), nil)
		wantNum(t, what+": Number", p.o.Number(), 1)
		wantNum(t, what+": Clock", p.o.Clock(), clock)
		wantLoads(t, what, p.o, loads...)
		wantNum(t, what+": Spans", p.o.Spans(), spans)
		wantBytes(t, what+": the disk", p.d.Image(), image)
		wantNum(t, what+": Pending", p.d.Pending(), pending)
		p.fuse(-1) // the power comes again, but the server does not
	}
}

// P22.2 to P22.7: an engine that dies of the call, ahead of each of its writes and syncs, a checkpoint's among them; then each call on the dead one. What is said, done and counted because of such a call is nothing; behind the crash its record stands, or it does not.
func TestDeathOfTheCall(t *testing.T) {
	for _, c := range callsThatWrite(t) {
		for _, full := range []bool{false, true} {
			for fuse := 0; ; fuse++ {
				what := fmt.Sprint(c.what, ", the log is full: ", full, ", fuse ", fuse)
				p := pairOf(t, 1, 3, knownOf(c.was, c.was, owned(9, 1))...)
				for seq := 1; full && seq <= 23; seq++ {
					p.hear(ask(1, 4, seq, 2, put(keyOf(2, 3, 0), "1")))
				}
				p.tick()
				p.deeds()
				loads := p.o.Loads()
				p.fuse(fuse)
				said, err := c.on(p)
				if err == api.OK {
					wantLedger(t, what, p.o, 0, c.then)
					if fuse < 2 {
						t.Fatalf("%s: there was power enough", what)
					}
					break
				}
				wantNone(t, what, said, err, errEngDead)
				wantText(t, what+": Deeds", toldDeeds(p.deeds()), toldDeeds(nil))
				wantLoads(t, what, p.o, loads...)
				wantDead(t, what, p)
				wantBehindCrash(t, what, p, c)
			}
		}
	}
}

// wantBehindCrash asks that behind a crash the ledger is as it was, or as the record makes it; and that the new server begins anew.
func wantBehindCrash(t *testing.T, what string, p *pair, c call) {
	t.Helper()
	keep := make([]bool, p.d.Pending())
	for i := range keep {
		keep[i] = true
	}
	p.crash(keep, -1, 0)
	wantErr(t, what+": Open", p.open(), api.OK)
	if l, _ := p.o.Ledger(0); l != c.was && l != c.then {
		t.Fatalf("%s: behind the crash: %v, it was %v", what, l, c.was)
	}
	wantLoads(t, what, p.o, 0, 0, 0)
	p.tick()
}

// P22.3, P22.10: a write whose call met the end of the power is answered by nobody; said again behind the crash it is done, once, whether its record was kept or not.
func TestWriteWithoutPower(t *testing.T) {
	for fuse := range 2 {
		for _, isKept := range []bool{false, true} {
			p := pairOf(t, 1, 2, knownOf(owned(4, 1))...)
			request := ask(1, 3, 1, 0, put("a", "1"))
			p.fuse(fuse)
			said, err := p.hear(request)
			wantNone(t, "a write without power", said, err, errEngDead)
			p.crash([]bool{isKept}, -1, 0)
			wantErr(t, "Open", p.open(), api.OK)
			p.wantHeard(request, answered(request, api.Answer{Done: true, At: 1}))
			wantNum(t, "Deeds", len(p.deeds()), map[bool]int{true: 0, false: 1}[isKept && fuse == 1])
			p.wantHeard(request, answered(request, api.Answer{Done: true, At: 1}))
			wantText(t, "Deeds", toldDeeds(p.deeds()), toldDeeds(nil))
		}
	}
}

// P22.2, P22.3: as long as nothing is to be written, nobody meets the end of the power: what is read, was done, or is refused, is answered.
func TestNoPowerIsAskedFor(t *testing.T) {
	p := pairOf(t, 1, 3, knownOf(owned(4, 1), offered(5, 2), committed(5, 2), installed(5, 2), released(5, 2), owned(maxEpoch, 1))...)
	done := ask(1, 3, 1, 0, put(keyOf(0, 6, 0), "1"))
	p.hear(done)
	p.deeds()
	p.fuse(0)
	for range 3 {
		p.wantHeard(done, answered(done, api.Answer{Done: true, At: 1}))
		for shard := range 7 {
			request := ask(1, 4, 1, shard, seek(""))
			_, err := p.hear(request)
			wantErr(t, short(request), err, api.OK)
			for kind := 4; kind <= 8; kind++ {
				for _, m := range []api.Mail{plain(kind, 0, 1, shard, 4), plain(kind, 0, 1, shard, 5), plain(kind, 2, 1, shard, 6)} {
					_, err = p.hear(m)
					wantErr(t, short(m), err, api.OK)
				}
			}
		}
		for _, to := range []int{-1, 1, 3} {
			if _, err := p.move(0, to); err == errEngDead {
				t.Fatal("a move that is refused: it died")
			}
		}
		wantErr(t, "Cancel", p.cancel(0), errLedgerPhase)
	}
	_, err := p.hear(ask(1, 3, 2, 0, put(keyOf(0, 6, 0), "1")))
	wantErr(t, "a write", err, errEngDead)
}
