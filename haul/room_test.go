package haul_test

import (
	"fmt"
	"testing"

	"haulage/api"
)

// P21.3: a copy for whose record the log has no room, though a checkpoint would come first; one byte less has it. The log takes 57 * 23 bytes, of which an install of few numbers takes six.
func TestNoRoomInTheLog(t *testing.T) {
	for _, l := range free() {
		for _, size := range []int{1304, 1305, 1306, 1307, 3000} {
			p := pairOf(t, 1, 3, known{l, copyOf(3)})
			said, err := p.hear(offerOf(t, 2, 1, 0, 5, copyOfSize(t, size)))
			if size <= 1305 {
				wantSaid(t, "room", said, err, plain(api.MailHave, 1, 2, 0, 5))
				wantLedger(t, "room", p.e, 0, installed(5, 2))
				continue
			}
			wantSaid(t, "no room", said, err, plain(api.MailFull, 1, 2, 0, 5))
			wantLedger(t, "no room", p.e, 0, l)
		}
	}
}

// P21.3: a copy behind which the state has no room in a slot; one byte less has it. A slot takes 4032 bytes, of which a shard of such a copy takes eleven besides it.
func TestNoRoomInTheSlot(t *testing.T) {
	s := setupOf(3, 1)
	s.Layout.Log = 100
	for _, l := range free() {
		for _, size := range []int{4020, 4021, 4022, 4023, 5000} {
			p := pairOver(t, s, 1, imageOf(t, s, 1, formOf(t, 1, 3, knownOf(l))))
			said, err := p.hear(offerOf(t, 2, 1, 0, 5, copyOfSize(t, size)))
			if size <= 4021 {
				wantSaid(t, "room", said, err, plain(api.MailHave, 1, 2, 0, 5))
				wantLedger(t, "room", p.e, 0, installed(5, 2))
				continue
			}
			wantSaid(t, "no room", said, err, plain(api.MailFull, 1, 2, 0, 5))
			wantLedger(t, "no room", p.e, 0, l)
		}
	}
}

// P21.3: other shards' copies take the room.
func TestNoRoomBesideOthers(t *testing.T) {
	row := []known{{owned(3, 1), copyOfSize(t, 1300)}, {offered(1, 0), copyOfSize(t, 1200)}, {released(4, 0), nil}}
	for size := 1000; size < 1600; size += 7 {
		p := pairOf(t, 1, 3, row...)
		p.hear(offerOf(t, 2, 1, 2, 5, copyOfSize(t, size)))
	}
	p := pairOf(t, 1, 3, row...)
	said, err := p.hear(offerOf(t, 2, 1, 2, 5, copyOfSize(t, 1520)))
	wantSaid(t, "no room", said, err, plain(api.MailFull, 1, 2, 2, 5))
}

// P21.3: the greatest copy that there may be, for which no log has room.
func TestGreatestCopy(t *testing.T) {
	s := setupOf(2, 1)
	s.Layout.Log, s.Layout.Shot = 4096, 4200
	greatest := copyOfSize(t, maxCopy)
	p := pairOver(t, s, 1, imageOf(t, s, 1, formOf(t, 1, 2, knownOf(absent(0)))))
	said, err := p.hear(offerOf(t, 0, 1, 0, 1, greatest))
	wantSaid(t, "the greatest copy", said, err, plain(api.MailFull, 1, 0, 0, 1))
	wantLedger(t, "the greatest copy", p.e, 0, absent(0))
	great := copyOfSize(t, 57*4095-7)
	said, err = p.hear(offerOf(t, 0, 1, 0, 1, great))
	wantSaid(t, "a great copy", said, err, plain(api.MailHave, 1, 0, 0, 1))
	wantBytes(t, "a great copy", p.e.Export(0), great)
}

// filled is a pair of a generation whose log is full; its last shard was written to.
func filled(t *testing.T, gen int, l api.Ledger) *pair {
	t.Helper()
	s := setupOf(3, 2)
	p := pairOver(t, s, 1, imageOf(t, s, gen, formOf(t, 1, 3, knownOf(l, owned(9, 1)))))
	for seq := 1; seq <= 23; seq++ {
		_, err := p.do(write(1, 3, seq, put("a", "1")))
		wantErr(t, "filling the log", err, api.OK)
	}
	_, err := p.do(write(1, 3, 24, put("a", "1")))
	wantErr(t, "a write to a full log", err, errLogFull)
	return p
}

// P21.3, P21.2: a full log, behind whose generation there is no other: of an install MailFull is said, of other records nothing; Move and Cancel tell the error. All stays as it was.
func TestNoRoomAtTheEnd(t *testing.T) {
	for _, c := range allCalls(t) {
		what := fmt.Sprint("record ", c.record, " at the end")
		p := filled(t, maxTime, c.was)
		p.tick()
		left, before := p.h.Left(0), tale(p.e)
		said, err := p.hear(c.m)
		if c.record == api.RecInstall {
			wantSaid(t, what, said, err, plain(api.MailFull, 1, 2, 0, 5))
		} else {
			wantSaid(t, what, said, err)
		}
		wantText(t, what, tale(p.e), before)
		wantNum(t, what+": Left", p.h.Left(0), left)

		p = filled(t, maxTime-1, c.was)
		p.hear(c.m)
		wantLedger(t, what+", but one generation", p.e, 0, c.then)
		wantNum(t, what+", but one generation: Gen", p.e.Gen(), maxTime)
	}
	p := filled(t, maxTime, owned(5, 1))
	said, err := p.move(0, 2)
	wantNone(t, "Move at the end", said, err, errLogFull)
	p = filled(t, maxTime, offered(5, 2))
	wantErr(t, "Cancel at the end", p.cancel(0), errLogFull)
	said, err = p.tick()
	wantSaid(t, "Tick at the end", said, err, offerOf(t, 1, 2, 0, 5, emptyCopy()))
}

// P21.2, P21.3: MailFull, heard by who offers, cancels the offer; the shard may be offered elsewhere then.
func TestFullIsHeard(t *testing.T) {
	zero := pairOf(t, 0, 3, known{owned(0, 0), copyOfSize(t, 2000)})
	one := pairOf(t, 1, 3, knownOf(absent(0))...)
	said, err := zero.move(0, 1)
	wantErr(t, "Move", err, api.OK)
	full, err := one.hear(said[0])
	wantSaid(t, "no room", full, err, plain(api.MailFull, 1, 0, 0, 1))
	for range 2 {
		said, err = zero.hear(full[0])
		wantSaid(t, "MailFull", said, err)
		wantLedger(t, "MailFull", zero.e, 0, owned(2, 0))
	}
	said, err = zero.move(0, 2)
	wantSaid(t, "Move elsewhere", said, err, offerOf(t, 0, 2, 0, 3, copyOfSize(t, 2000)))
	said, err = zero.hear(full[0])
	wantSaid(t, "MailFull, late", said, err)
	wantLedger(t, "MailFull, late", zero.e, 0, offered(3, 2))
}
