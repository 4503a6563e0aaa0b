package ledger_test

import (
	"testing"

	"haulage/api"
	"haulage/ledger"
)

// inPhases are ledgers of server 1 in each phase, from Owned on with this epoch, and with peer 2 (but Owned).
func inPhases(epoch int) []api.Ledger {
	return []api.Ledger{absent(0, 2), owned(epoch, 1), offered(epoch, 2), committed(epoch, 2), installed(epoch, 2), released(epoch, 2)}
}

// wantHeard asks what each phase answers to one message.
func wantHeard(t *testing.T, at []api.Ledger, kind, epoch, from int, wanted [6]heard) {
	t.Helper()
	for phase, l := range at {
		wantHear(t, 1, l, kind, epoch, from, wanted[phase].record, wanted[phase].reply)
	}
}

// P15.4: an OFFER above the own epoch, at it, below it; from the peer and from another server.
func TestHearOffer(t *testing.T) {
	take := heard{api.RecInstall, api.MailHave}
	have := heard{0, api.MailHave}
	for _, epoch := range []int{6, 7, 1000, maxEpoch - 1} {
		for _, from := range []int{2, 0, 7} {
			wantHeard(t, inPhases(5), api.MailOffer, epoch, from, [6]heard{0: take, 4: take, 5: take})
		}
	}
	wantHeard(t, inPhases(5), api.MailOffer, 5, 2, [6]heard{0: take, 4: have})
	wantHeard(t, inPhases(5), api.MailOffer, 5, 3, [6]heard{0: take})
	wantHeard(t, inPhases(5), api.MailOffer, 4, 2, [6]heard{0: take})
	wantHeard(t, inPhases(5), api.MailOffer, 0, 2, [6]heard{})
	wantHeard(t, inPhases(5), api.MailOffer, -1, 2, [6]heard{})
	wantHeard(t, inPhases(5), api.MailOffer, maxEpoch, 2, [6]heard{})
	wantHeard(t, inPhases(5), api.MailOffer, maxEpoch+1, 2, [6]heard{})
}

// P15.4: an OFFER at the end of epochs: what is installed with it already, is told so.
func TestHearOfferAtEnd(t *testing.T) {
	wantHear(t, 1, installed(maxEpoch, 2), api.MailOffer, maxEpoch, 2, 0, api.MailHave)
	wantHear(t, 1, installed(maxEpoch, 2), api.MailOffer, maxEpoch, 3, 0, 0)
	wantHear(t, 1, installed(maxEpoch-1, 2), api.MailOffer, maxEpoch-1, 2, 0, api.MailHave)
	wantHear(t, 1, installed(maxEpoch-1, 2), api.MailOffer, maxEpoch, 2, 0, 0)
	wantHear(t, 1, released(maxEpoch-2, 2), api.MailOffer, maxEpoch-1, 2, api.RecInstall, api.MailHave)
	wantHear(t, 1, released(maxEpoch-1, 2), api.MailOffer, maxEpoch-1, 2, 0, 0)
}

// P15.4: HAVE.
func TestHearHave(t *testing.T) {
	cancel := heard{0, api.MailCancel}
	all := [6]heard{1: cancel, 2: cancel, 3: cancel, 4: cancel, 5: cancel}
	wantHeard(t, inPhases(5), api.MailHave, 5, 2, [6]heard{2: {api.RecCommit, api.MailCommit}, 3: {0, api.MailCommit}})
	wantHeard(t, inPhases(5), api.MailHave, 5, 3, [6]heard{})
	for _, from := range []int{2, 0, 7} {
		wantHeard(t, inPhases(5), api.MailHave, 6, from, [6]heard{})
		wantHeard(t, inPhases(5), api.MailHave, maxEpoch, from, [6]heard{})
		wantHeard(t, inPhases(5), api.MailHave, 4, from, all)
		wantHeard(t, inPhases(5), api.MailHave, 0, from, all)
		all[0] = cancel
		wantHeard(t, inPhases(5), api.MailHave, -1, from, all)
		all[0] = heard{}
	}
}

// P15.4: COMMIT.
func TestHearCommit(t *testing.T) {
	mine := heard{0, api.MailMine}
	wantHeard(t, inPhases(5), api.MailCommit, 5, 2, [6]heard{1: mine, 2: mine, 3: mine, 4: {api.RecOwn, api.MailMine}, 5: mine})
	wantHeard(t, inPhases(5), api.MailCommit, 5, 3, [6]heard{1: mine, 2: mine, 3: mine, 5: mine})
	for _, from := range []int{2, 0, 7} {
		wantHeard(t, inPhases(5), api.MailCommit, 6, from, [6]heard{})
		wantHeard(t, inPhases(5), api.MailCommit, maxEpoch, from, [6]heard{})
		wantHeard(t, inPhases(5), api.MailCommit, 4, from, [6]heard{1: mine, 2: mine, 3: mine, 4: mine, 5: mine})
		wantHeard(t, inPhases(5), api.MailCommit, 0, from, [6]heard{mine, mine, mine, mine, mine, mine})
		wantHeard(t, inPhases(5), api.MailCommit, -1, from, [6]heard{mine, mine, mine, mine, mine, mine})
	}
}

// P15.4: MINE, CANCEL and FULL, each in the one phase that asks for it, with its epoch, from its peer.
func TestHearEnds(t *testing.T) {
	for kind, wanted := range map[int][6]heard{
		api.MailMine:   {3: {api.RecRelease, 0}},
		api.MailCancel: {4: {api.RecForget, 0}},
		api.MailFull:   {2: {api.RecCancel, 0}},
	} {
		wantHeard(t, inPhases(5), kind, 5, 2, wanted)
		wantHeard(t, inPhases(maxEpoch-1), kind, maxEpoch-1, 2, wanted)
		for _, epoch := range []int{-1, 0, 1, 4, 6, maxEpoch} {
			wantHeard(t, inPhases(5), kind, epoch, 2, [6]heard{})
		}
		for _, from := range []int{0, 3, 7} {
			wantHeard(t, inPhases(5), kind, 5, from, [6]heard{})
		}
	}
}

// P15.4: kinds that are none of these call for nothing.
func TestHearOtherKinds(t *testing.T) {
	for _, kind := range append(farNumbers(), -3, -1, 0, api.MailRequest, api.MailReply, 9, 10) {
		for _, epoch := range []int{4, 5, 6} {
			wantHeard(t, inPhases(5), kind, epoch, 2, [6]heard{})
		}
	}
}

// P15.4: what is from the server itself, or from none, calls for nothing.
func TestHearFromNone(t *testing.T) {
	for _, from := range append(farNumbers(), -2, -1, 1, 8, 9) {
		for kind := api.MailOffer; kind <= api.MailFull; kind++ {
			for _, epoch := range []int{-1, 0, 4, 5, 6} {
				wantHeard(t, inPhases(5), kind, epoch, from, [6]heard{})
			}
		}
	}
}

// P15.4: a ledger that is not sound at the server hears nothing.
func TestHearWrongLedgers(t *testing.T) {
	for _, l := range wrongLedgers() {
		for kind := api.MailOffer; kind <= api.MailFull; kind++ {
			for _, epoch := range aroundEpochs(l) {
				for from := -1; from <= 8; from++ {
					wantHear(t, 3, l, kind, epoch, from, 0, 0)
				}
			}
		}
	}
	for _, server := range append(farNumbers(), -1, 8) {
		wantHear(t, server, absent(0, 2), api.MailOffer, 1, 2, 0, 0)
		wantHear(t, server, owned(2, server), api.MailHave, 1, 2, 0, 0)
		wantHear(t, server, offered(2, 3), api.MailHave, 2, 3, 0, 0)
	}
}

// P15.4, P15.10: against the second telling, all edges crossed; and Step takes each record that is called for.
func TestHearTold(t *testing.T) {
	for _, server := range []int{0, 3, 7} {
		for _, l := range append(soundLedgers(server), wrongLedgers()...) {
			for _, epoch := range aroundEpochs(l) {
				for kind := -1; kind <= 10; kind++ {
					for from := -1; from <= 8; from++ {
						record, reply := ledger.Hear(server, l, kind, epoch, from)
						if got, wanted := (heard{record, reply}), toldHear(server, l, kind, epoch, from); got != wanted {
							t.Fatalf("Hear(%d, %v, kind %d, epoch %d, from %d): %v; wanted %v", server, l, kind, epoch, from, got, wanted)
						}
						if record == 0 {
							continue
						}
						if _, err := ledger.Step(server, l, api.Record{Kind: record, Epoch: epoch, Peer: from}); err != api.OK {
							t.Fatalf("Hear(%d, %v, kind %d, epoch %d, from %d) calls for %d: error %d", server, l, kind, epoch, from, record, err)
						}
					}
				}
			}
		}
	}
}
