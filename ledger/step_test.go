package ledger_test

import (
	"testing"

	"haulage/api"
	"haulage/ledger"
)

// P15.3: each record in each phase.
func TestStepPhases(t *testing.T) {
	at := []api.Ledger{absent(0, 2), owned(5, 1), offered(5, 2), committed(5, 2), installed(5, 2), released(5, 2)}
	none := api.Ledger{Phase: -1}
	for kind, behind := range map[int][6]api.Ledger{
		api.RecWrite:   {none, owned(5, 1), none, none, none, none},
		api.RecOffer:   {none, offered(6, 3), none, none, none, none},
		api.RecCancel:  {none, none, owned(6, 1), none, none, none},
		api.RecInstall: {installed(9, 3), none, none, none, installed(9, 3), installed(9, 3)},
		api.RecCommit:  {none, none, committed(5, 2), none, none, none},
		api.RecOwn:     {none, none, none, none, owned(5, 1), none},
		api.RecRelease: {none, none, none, released(5, 2), none, none},
		api.RecForget:  {none, none, none, none, released(5, 2), none},
	} {
		for phase, wanted := range behind {
			r := api.Record{Kind: kind, Epoch: 9, Peer: 3}
			if wanted == none {
				wantRefused(t, 1, at[phase], r, api.ErrLedgerPhase)
			} else {
				wantStep(t, 1, at[phase], r, wanted)
			}
		}
	}
}

// P15.3: kinds that are none, in each phase.
func TestStepKinds(t *testing.T) {
	for _, kind := range append(farNumbers(), -2, -1, 0, 9, 10, 11) {
		for _, l := range soundLedgers(1) {
			wantRefused(t, 1, l, api.Record{Kind: kind, Epoch: l.Epoch + 1, Peer: 2}, api.ErrArg)
		}
	}
}

// P15.3: ledgers that are not sound at the server, by one thing alone.
func TestStepWrongLedgers(t *testing.T) {
	for _, l := range wrongLedgers() {
		for kind := range 10 {
			wantRefused(t, 3, l, api.Record{Kind: kind, Epoch: 2, Peer: 5}, api.ErrArg)
		}
	}
	for _, server := range append(farNumbers(), -1, 8) {
		wantRefused(t, server, owned(1, server), offerTo(2), api.ErrArg)
		wantRefused(t, server, absent(0, 2), install(1, 2), api.ErrArg)
		wantRefused(t, server, offered(1, 2), rec(api.RecCommit), api.ErrArg)
	}
}

// P15.3: the epochs of an Offer; the last one leaves one for the Cancel.
func TestStepOfferEpochs(t *testing.T) {
	for _, epoch := range []int{0, 1, 2, 1000, maxEpoch - 3, maxEpoch - 2} {
		wantStep(t, 2, owned(epoch, 2), offerTo(7), offered(epoch+1, 7))
		wantStep(t, 2, offered(epoch+1, 7), rec(api.RecCancel), owned(epoch+2, 2))
	}
	wantRefused(t, 2, owned(maxEpoch-1, 2), offerTo(7), api.ErrLedgerEpoch)
	wantRefused(t, 2, owned(maxEpoch, 2), offerTo(7), api.ErrLedgerEpoch)
	for _, epoch := range edgeEpochs() { // the record's own counts for nothing
		wantStep(t, 2, owned(4, 2), api.Record{Kind: api.RecOffer, Epoch: epoch, Peer: 7}, offered(5, 7))
	}
}

// P15.3: the peers of an Offer and of an Install.
func TestStepPeers(t *testing.T) {
	for _, server := range []int{0, 4, 7} {
		for _, peer := range append(farNumbers(), span(-2, 10)...) {
			if peer >= 0 && peer <= 7 && peer != server {
				wantStep(t, server, owned(3, server), offerTo(peer), offered(4, peer))
				wantStep(t, server, absent(0, (server+1)%8), install(1, peer), installed(1, peer))
				wantStep(t, server, released(2, (server+1)%8), install(3, peer), installed(3, peer))
				wantStep(t, server, installed(2, (server+1)%8), install(3, peer), installed(3, peer))
				continue
			}
			wantRefused(t, server, owned(3, server), offerTo(peer), api.ErrLedgerPeer)
			wantRefused(t, server, absent(0, (server+1)%8), install(1, peer), api.ErrLedgerPeer)
			wantRefused(t, server, released(2, (server+1)%8), install(3, peer), api.ErrLedgerPeer)
			wantRefused(t, server, installed(2, (server+1)%8), install(3, peer), api.ErrLedgerPeer)
		}
	}
}

// P15.3: the epochs of an Install: lower, the same, one more, far more, the last ones.
func TestStepInstallEpochs(t *testing.T) {
	for _, l := range []api.Ledger{absent(0, 2), installed(1, 2), released(1, 2), installed(500, 2), released(500, 2), installed(maxEpoch-2, 2), released(maxEpoch-2, 2)} {
		for _, epoch := range append(edgeEpochs(), l.Epoch-1, l.Epoch) {
			if epoch <= l.Epoch || epoch >= maxEpoch {
				wantRefused(t, 1, l, install(epoch, 3), api.ErrLedgerEpoch)
			}
		}
		for _, epoch := range []int{l.Epoch + 1, (l.Epoch + maxEpoch) / 2, maxEpoch - 1} {
			wantStep(t, 1, l, install(epoch, 3), installed(epoch, 3))
			wantStep(t, 1, l, install(epoch, 2), installed(epoch, 2))
		}
	}
	for _, epoch := range edgeEpochs() {
		for _, own := range []int{maxEpoch - 1, maxEpoch} {
			wantRefused(t, 1, installed(own, 2), install(epoch, 3), api.ErrLedgerEpoch)
			wantRefused(t, 1, released(own, 2), install(epoch, 3), api.ErrLedgerEpoch)
		}
	}
}

// P15.3: the records without an epoch of their own, at the last epochs.
func TestStepLastEpochs(t *testing.T) {
	wantStep(t, 1, offered(maxEpoch-1, 2), rec(api.RecCancel), owned(maxEpoch, 1))
	wantStep(t, 1, offered(maxEpoch-1, 2), rec(api.RecCommit), committed(maxEpoch-1, 2))
	for _, epoch := range []int{1, maxEpoch - 1, maxEpoch} {
		wantStep(t, 1, owned(epoch, 1), rec(api.RecWrite), owned(epoch, 1))
		wantStep(t, 1, installed(epoch, 2), rec(api.RecOwn), owned(epoch, 1))
		wantStep(t, 1, installed(epoch, 2), rec(api.RecForget), released(epoch, 2))
		wantStep(t, 1, committed(epoch, 2), rec(api.RecRelease), released(epoch, 2))
	}
	wantStep(t, 1, owned(0, 1), rec(api.RecWrite), owned(0, 1))
}

// P15.3, P0.2: each pair of errors that could both be said.
func TestStepErrorOrder(t *testing.T) {
	for _, c := range []struct {
		what   string
		server int
		l      api.Ledger
		r      api.Record
		err    api.Errno
	}{
		{"ErrArg of the ledger, and the phase", 1, owned(0, 2), rec(api.RecCommit), api.ErrArg},
		{"ErrArg of the ledger, and the epoch", 1, owned(maxEpoch+1, 1), offerTo(2), api.ErrArg},
		{"ErrArg of the ledger, and an Install's epoch", 1, absent(0, 1), install(0, 2), api.ErrArg},
		{"ErrArg of the ledger, and the peer", 1, owned(0, 2), offerTo(1), api.ErrArg},
		{"ErrArg of the ledger, and all others", 1, offered(maxEpoch, 1), install(0, 1), api.ErrArg},
		{"ErrArg of the server, and the peer", 8, owned(0, 8), offerTo(8), api.ErrArg},
		{"ErrArg of the kind, and the ledger", 1, owned(0, 2), rec(9), api.ErrArg},
		{"ErrArg of the kind, and the peer", 1, owned(0, 1), api.Record{Kind: 0, Peer: 1}, api.ErrArg},
		{"the phase, and an Offer's epoch", 1, offered(maxEpoch-1, 2), offerTo(2), api.ErrLedgerPhase},
		{"the phase, and an Offer's peer", 1, offered(3, 2), offerTo(1), api.ErrLedgerPhase},
		{"the phase, and an Offer's epoch and peer", 1, committed(maxEpoch, 2), offerTo(8), api.ErrLedgerPhase},
		{"the phase, and an Install's epoch", 1, owned(3, 1), install(3, 2), api.ErrLedgerPhase},
		{"the phase, and an Install's epoch at the end", 1, offered(3, 2), install(maxEpoch, 2), api.ErrLedgerPhase},
		{"the phase, and an Install's peer", 1, committed(3, 2), install(4, 1), api.ErrLedgerPhase},
		{"the phase, and an Install's epoch and peer", 1, owned(3, 1), install(0, -1), api.ErrLedgerPhase},
		{"an Offer's epoch and its peer", 1, owned(maxEpoch-1, 1), offerTo(1), api.ErrLedgerEpoch},
		{"an Offer's epoch and a peer that is none", 1, owned(maxEpoch, 1), offerTo(-1), api.ErrLedgerEpoch},
		{"an Install's epoch and its peer", 1, absent(0, 2), install(0, 1), api.ErrLedgerEpoch},
		{"an Install's epoch at the end, and its peer", 1, released(3, 2), install(maxEpoch, 8), api.ErrLedgerEpoch},
		{"an Install's same epoch, and its peer", 1, installed(3, 2), install(3, -1), api.ErrLedgerEpoch},
	} {
		if got, err := ledger.Step(c.server, c.l, c.r); got != (api.Ledger{}) || err != c.err {
			t.Errorf("%s: %v, error %d", c.what, got, err)
		}
	}
}

// P15.3: of a record Kind, and where it is said Epoch and Peer count, and nothing else.
func TestStepOtherFields(t *testing.T) {
	more := api.Record{Shard: 70, Client: -4, Seq: 1 << 40, Op: api.Op{Kind: 77, Key: []byte("a"), Value: []byte("b"), Rev: -1}, Copy: []byte{1, 2, 3}}
	for kind := range 10 {
		for _, l := range soundLedgers(4) {
			bare := api.Record{Kind: kind, Epoch: l.Epoch + 1, Peer: 6}
			full := more
			full.Kind, full.Epoch, full.Peer = bare.Kind, bare.Epoch, bare.Peer
			a, errA := ledger.Step(4, l, bare)
			b, errB := ledger.Step(4, l, full)
			if a != b || errA != errB {
				t.Errorf("Step(4, %v, kind %d): %v, error %d; with more in the record %v, error %d", l, kind, a, errA, b, errB)
			}
		}
	}
}

// P15.3, P15.9: against the second telling, all edges crossed; an epoch never falls, and what is taken is sound.
func TestStepTold(t *testing.T) {
	lines := stepLines()
	peers := []int{-1, 0, 3, 6, 7, 8}
	for _, server := range []int{0, 3, 7} {
		for _, l := range append(soundLedgers(server), wrongLedgers()...) {
			for _, epoch := range aroundEpochs(l) {
				for kind := -1; kind <= 10; kind++ {
					for _, peer := range peers {
						r := api.Record{Kind: kind, Epoch: epoch, Peer: peer}
						got, err := ledger.Step(server, l, r)
						wanted, wantedErr := toldStep(lines, server, l, r)
						if got != wanted || err != wantedErr {
							t.Fatalf("Step(%d, %v, kind %d, epoch %d, peer %d): %v, error %d; wanted %v, error %d", server, l, kind, epoch, peer, got, err, wanted, wantedErr)
						}
						if err == api.OK && (got.Epoch < l.Epoch || !ledger.Valid(server, got)) {
							t.Fatalf("Step(%d, %v, kind %d, epoch %d, peer %d): %v is behind it", server, l, kind, epoch, peer, got)
						}
					}
				}
			}
		}
	}
}
