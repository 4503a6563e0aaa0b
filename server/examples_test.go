package server_test

import (
	"testing"

	"haulage/api"
	"haulage/mail"
)

// P22.2 to P22.7: the rows of "Examples", one behind the other.
func TestExamples(t *testing.T) {
	s := setupOf(2, 1)
	zero, one := pairOfNew(t, s, 0), pairOfNew(t, s, 1)
	first := ask(0, 3, 1, 0, put("a", "1"))
	done := answered(first, api.Answer{Done: true, At: 1})

	zero.wantHeard(first, done)
	wantText(t, "Deeds", toldDeeds(zero.deeds()), toldDeeds([]api.Deed{{Shard: 0, Rev: 1, Client: 3, Seq: 1}}))
	wantLoads(t, "a write", zero.o, 2)

	zero.wantHeard(first, done)
	wantText(t, "Deeds", toldDeeds(zero.deeds()), toldDeeds(nil))
	wantLoads(t, "the same again", zero.o, 3)

	second := ask(1, 3, 2, 0, get("a"))
	one.wantHeard(second, refused(second, errWrongOwner, 0))

	offer := offerOf(t, 0, 1, 0, 1, zero.o.Export(0))
	said, err := zero.move(0, 1)
	wantSent(t, "Move", said, err, offer)
	second = ask(0, 3, 2, 0, get("a"))
	zero.wantHeard(second, refused(second, errFrozen, 1))

	one.wantHeard(offer, plain(4, 1, 0, 0, 1))
	zero.wantHeard(plain(4, 1, 0, 0, 1), plain(5, 0, 1, 0, 1))
	one.wantHeard(plain(5, 0, 1, 0, 1), plain(6, 1, 0, 0, 1))
	zero.wantHeard(plain(6, 1, 0, 0, 1))
	wantLedger(t, "behind the handshake", zero.o, 0, released(1, 1))
	wantSpans(t, "behind the handshake", zero.o, 0)

	late := ask(1, 3, 1, 0, put("a", "1"))
	one.wantHeard(late, answered(late, api.Answer{Done: true, At: 1}))
	wantText(t, "Deeds", toldDeeds(one.deeds()), toldDeeds(nil))
}

// P22.2, P22.3: the last row of "Examples".
func TestExamplesOfNothing(t *testing.T) {
	zero := pairOfNew(t, setupOf(2, 1), 0)
	said, err := zero.hearData("no bytes", nil)
	wantSent(t, "Hear of no bytes", said, err)
	zero.wantHeard(answered(ask(0, 3, 1, 0, put("a", "1")), api.Answer{Done: true, At: 1}))
	zero.wantHeard(answered(ask(1, 3, 1, 0, put("a", "1")), api.Answer{Done: true, At: 1}))
	zero.wantHeard(ask(1, 3, 1, 0, put("a", "1")))
	zero.wantHeard(ask(0, 3, 1, 1, put("a", "1")))
	wantText(t, "Deeds", toldDeeds(zero.deeds()), toldDeeds(nil))
	wantLoads(t, "nothing was asked", zero.o, 0)
}

// P22.2: a letter has the number 0, From and To as the message has them, and the message's form.
func TestLetter(t *testing.T) {
	zero := pairOfNew(t, setupOf(2, 1), 0)
	said, err := zero.o.Hear(form(t, ask(0, 3, 1, 0, put("a", "1"))))
	wantErr(t, "Hear", err, api.OK)
	wantNum(t, "letters", len(said), 1)
	l := said[0]
	if l.Number != 0 || l.From != 0 || l.To != 103 {
		t.Fatalf("the letter: %v", l)
	}
	m, err := mail.Decode(l.Data)
	wantErr(t, "Decode", err, api.OK)
	if m.Kind != api.MailReply || m.From != 0 || m.To != 103 || m.Client != 3 || m.Seq != 1 || m.Verdict != api.OK || !m.Answer.Done || m.Answer.At != 1 {
		t.Fatalf("the reply: %+v", m)
	}
}
