package haul_test

import (
	"testing"

	"haulage/api"
)

// P21.2 to P21.4: the rows of "Examples", one behind the other.
func TestExamples(t *testing.T) {
	s := setupOf(2, 1)
	zero, one := pairOfNew(t, s, 0), pairOfNew(t, s, 1)
	offer := api.Mail{Kind: 3, From: 0, To: 1, Shard: 0, Epoch: 1, Root: zero.e.Root(0), Copy: []byte{2, 0, 0, 0}}
	have, commit, mine := plain(4, 1, 0, 0, 1), plain(5, 0, 1, 0, 1), plain(6, 1, 0, 0, 1)

	said, err := zero.move(0, 1)
	wantSaid(t, "0: Move", said, err, offer)
	for range 2 {
		said, err = one.hear(offer)
		wantSaid(t, "1: Hear of that", said, err, have)
	}
	for range 2 {
		said, err = zero.hear(have)
		wantSaid(t, "0: Hear of one of them", said, err, commit)
	}
	for i := range 4 {
		said, err = zero.tick()
		wantSaid(t, "0: Tick", said, err, [][]api.Mail{{commit}, nil, {commit}, nil}[i]...)
	}
	for range 2 {
		said, err = one.hear(commit)
		wantSaid(t, "1: Hear of a MailCommit", said, err, mine)
	}
	said, err = one.tick()
	wantSaid(t, "1: Tick", said, err)
	said, err = zero.hear(mine)
	wantSaid(t, "0: Hear of MailMine", said, err)
	said, err = zero.tick()
	wantSaid(t, "0: Tick", said, err)
	wantErr(t, "0: Cancel", zero.cancel(0), errLedgerPhase)
	said, err = zero.move(0, 1)
	wantNone(t, "0: Move", said, err, errLedgerPhase)

	said, err = one.hear(offer)
	wantSaid(t, "1: Hear of the first MailOffer, late", said, err)
	back := api.Mail{Kind: 3, From: 1, To: 0, Shard: 0, Epoch: 2, Root: one.e.Root(0), Copy: []byte{2, 0, 0, 0}}
	said, err = one.move(0, 0)
	wantSaid(t, "1: Move", said, err, back)
	wantErr(t, "1: Cancel", one.cancel(0), api.OK)
	said, err = zero.hear(back)
	wantSaid(t, "0: Hear of that MailOffer", said, err, plain(4, 0, 1, 0, 2))
	said, err = one.hear(plain(4, 0, 1, 0, 2))
	wantSaid(t, "1: Hear of MailHave", said, err, plain(7, 1, 0, 0, 2))
}
