package haul_test

import (
	"fmt"
	"testing"

	"haulage/api"
)

// wantDead asks that each call answers ErrEngDead, with nothing beside it, and changes nothing.
func wantDead(t *testing.T, what string, p *pair, left int) {
	t.Helper()
	image, pending := p.d.Image(), p.d.Pending()
	for range 2 {
		said, err := p.move(0, 2)
		wantNone(t, what+": Move", said, err, errEngDead)
		said, err = p.move(-1, 99)
		wantNone(t, what+": Move of none", said, err, errEngDead)
		wantErr(t, what+": Cancel", p.cancel(0), errEngDead)
		wantErr(t, what+": Cancel of none", p.cancel(64), errEngDead)
		said, err = p.tick()
		wantNone(t, what+": Tick", said, err, errEngDead)
		for kind := range 10 {
			said, err = p.hear(plain(kind, 2, 1, 0, 5))
			wantNone(t, what+": Hear", said, err, errEngDead)
			said, err = p.hear(plain(kind, 2, 0, 9, -1))
			wantNone(t, what+": Hear of what is no message", said, err, errEngDead)
		}
		said, err = p.hear(offerOf(t, 2, 1, 0, 9, copyOf(3)))
		wantNone(t, what+": Hear of an offer", said, err, errEngDead)
		wantNum(t, what+": Left", p.h.Left(0), left)
		wantNum(t, what+": Left of another shard", p.h.Left(1), left)
		wantBytes(t, what+": the disk", p.d.Image(), image)
		wantNum(t, what+": Pending", p.d.Pending(), pending)
		p.fuse(-1) // the power comes again, but the engine does not
	}
}

// P21.2 to P21.4: an engine that is dead, of whatever it died.
func TestDeadEngine(t *testing.T) {
	for _, l := range []api.Ledger{owned(4, 1), offered(5, 2), committed(5, 2), installed(5, 2), released(5, 2)} {
		for fuse := range 2 {
			p := pairOf(t, 1, 3, knownOf(l, l, owned(9, 1))...)
			p.tick()
			left := p.h.Left(0)
			p.fuse(fuse)
			_, err := p.do(write(2, 3, 1, put("a", "1")))
			wantErr(t, "a write without power", err, errEngDead)
			wantDead(t, "dead of a write", p, left)
		}
		p := pairOf(t, 1, 3, knownOf(l, l, owned(9, 1))...)
		p.tick()
		left := p.h.Left(0)
		for seq := 1; p.e.Used() <= 12; seq++ {
			p.do(write(2, 3, seq, put("a", "1")))
		}
		p.fuse(0)
		wantErr(t, "Tidy without power", p.tidy(), errEngDead)
		wantDead(t, "dead of a Tidy", p, left)
	}
}

// P21.2, P21.3: an engine that dies of the call, ahead of each of its writes and syncs, a checkpoint's among them; the crash behind it keeps the record, or it does not; nothing was said.
func TestDeathOfTheCall(t *testing.T) {
	type deed struct {
		what string
		was  api.Ledger
		then api.Ledger
		call func(p *pair) ([]api.Mail, api.Errno)
	}
	all := []deed{
		{"Move", owned(5, 1), offered(6, 2), func(p *pair) ([]api.Mail, api.Errno) { return p.move(0, 2) }},
		{"Cancel", offered(5, 2), owned(6, 1), func(p *pair) ([]api.Mail, api.Errno) { return nil, p.cancel(0) }},
	}
	for _, c := range allCalls(t) {
		all = append(all, deed{fmt.Sprint("record ", c.record), c.was, c.then, func(p *pair) ([]api.Mail, api.Errno) { return p.hear(c.m) }})
	}
	for _, c := range all {
		for _, full := range []bool{false, true} {
			for fuse := 0; ; fuse++ {
				what := fmt.Sprint(c.what, ", the log is full: ", full, ", fuse ", fuse)
				p := pairOf(t, 1, 3, knownOf(c.was, c.was, owned(9, 1))...)
				if full {
					for seq := 1; seq <= 23; seq++ {
						p.do(write(2, 3, seq, put("a", "1")))
					}
				}
				p.tick()
				left := p.h.Left(0)
				p.fuse(fuse)
				said, err := c.call(p)
				if err == api.OK {
					wantLedger(t, what, p.e, 0, c.then)
					if fuse < 2 || full && fuse < 8 {
						t.Fatalf("%s: there was power enough", what)
					}
					break
				}
				wantNone(t, what, said, err, errEngDead)
				wantDead(t, what, p, left)
				wantBehindCrash(t, what, p, c.was, c.then)
			}
		}
	}
}

// wantBehindCrash asks that behind a crash the ledger is as it was, or as the record makes it; and that the new Haul begins anew.
func wantBehindCrash(t *testing.T, what string, p *pair, was, then api.Ledger) {
	t.Helper()
	keep := make([]bool, p.d.Pending())
	for i := range keep {
		keep[i] = true
	}
	p.crash(keep, -1, 0)
	wantErr(t, what+": Open", p.open(), api.OK)
	l, _ := p.e.Ledger(0)
	if l != was && l != then {
		t.Fatalf("%s: behind the crash: %v, it was %v", what, l, was)
	}
	said, err := p.tick()
	wantErr(t, what+": the first tick", err, api.OK)
	spoken := 0
	for _, shard := range []int{0, 1} {
		if l, _ := p.e.Ledger(shard); moves(l) {
			spoken++
		}
	}
	wantNum(t, what+": the first tick", len(said), spoken)
}

// P21.3, P21.4: as long as nothing is to be written, nobody meets the end of the power: messages are answered, ticks say what they say.
func TestNoPowerIsAskedFor(t *testing.T) {
	for _, l := range []api.Ledger{owned(5, 1), offered(5, 2), committed(5, 2), installed(5, 2), released(5, 2)} {
		p := pairOf(t, 1, 3, knownOf(l, l, owned(9, 1))...)
		p.fuse(0)
		for range 20 {
			_, err := p.tick()
			wantErr(t, "a tick", err, api.OK)
		}
		for kind := range 10 {
			for _, m := range []api.Mail{plain(kind, 0, 1, 0, 4), plain(kind, 0, 1, 0, 5), plain(kind, 2, 1, 0, 6)} {
				_, err := p.hear(m)
				wantErr(t, short(m), err, api.OK)
			}
		}
		_, err := p.move(0, 1)
		if err == errEngDead {
			t.Fatal("a move that is refused: the engine died")
		}
		p.hear(offerOf(t, 2, 1, 0, 9, copyOfSize(t, 2000)))
		wantLedger(t, "behind all", p.e, 0, l)
	}
}
