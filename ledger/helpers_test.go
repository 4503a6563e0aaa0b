package ledger_test

import (
	"math"
	"testing"

	"haulage/api"
	"haulage/ledger"
)

const (
	maxEpoch   = 1 << 30
	maxServers = 8
)

func absent(epoch, peer int) api.Ledger    { return api.Ledger{Phase: 0, Epoch: epoch, Peer: peer} }
func owned(epoch, peer int) api.Ledger     { return api.Ledger{Phase: 1, Epoch: epoch, Peer: peer} }
func offered(epoch, peer int) api.Ledger   { return api.Ledger{Phase: 2, Epoch: epoch, Peer: peer} }
func committed(epoch, peer int) api.Ledger { return api.Ledger{Phase: 3, Epoch: epoch, Peer: peer} }
func installed(epoch, peer int) api.Ledger { return api.Ledger{Phase: 4, Epoch: epoch, Peer: peer} }
func released(epoch, peer int) api.Ledger  { return api.Ledger{Phase: 5, Epoch: epoch, Peer: peer} }

func row(all ...api.Ledger) []api.Ledger { return all }

func rec(kind int) api.Record { return api.Record{Kind: kind} }

func offerTo(peer int) api.Record { return api.Record{Kind: api.RecOffer, Peer: peer} }

func install(epoch, from int) api.Record {
	return api.Record{Kind: api.RecInstall, Epoch: epoch, Peer: from}
}

// farNumbers are such as are no server, no phase, no kind and no epoch anywhere.
func farNumbers() []int { return []int{math.MinInt, -1 << 32, 1 << 32, 1 << 40, math.MaxInt} }

// span are the numbers from one to another.
func span(from, to int) []int {
	var all []int
	for n := from; n <= to; n++ {
		all = append(all, n)
	}
	return all
}

// edgeEpochs are the epochs at the ends of what may be, within and beyond.
func edgeEpochs() []int {
	return append(farNumbers(), -2, -1, 0, 1, 2, 3, maxEpoch-3, maxEpoch-2, maxEpoch-1, maxEpoch, maxEpoch+1, maxEpoch+2)
}

// aroundEpochs are the edges and those beside the ledger's own.
func aroundEpochs(l api.Ledger) []int {
	return append(edgeEpochs(), l.Epoch-1, l.Epoch, l.Epoch+1)
}

// ledgersOf are all ledgers of these phases, epochs and peers.
func ledgersOf(phases, epochs, peers []int) []api.Ledger {
	var all []api.Ledger
	for _, phase := range phases {
		for _, epoch := range epochs {
			for _, peer := range peers {
				all = append(all, api.Ledger{Phase: phase, Epoch: epoch, Peer: peer})
			}
		}
	}
	return all
}

// soundLedgers are ledgers of each phase that are sound at the server, with few and with the last epochs.
func soundLedgers(server int) []api.Ledger {
	var all []api.Ledger
	epochs := []int{0, 1, 2, 7, maxEpoch - 3, maxEpoch - 2, maxEpoch - 1, maxEpoch}
	for _, l := range ledgersOf(span(0, 5), epochs, span(0, maxServers-1)) {
		if toldValid(server, l) {
			all = append(all, l)
		}
	}
	return all
}

// wrongLedgers are ledgers that are not sound at server 3, each by one thing alone.
func wrongLedgers() []api.Ledger {
	return []api.Ledger{
		{Phase: -1, Epoch: 1, Peer: 2}, {Phase: 6, Epoch: 1, Peer: 2},
		absent(1, 2), absent(-1, 2), absent(0, 3), absent(0, -1), absent(0, 8),
		owned(1, 2), owned(-1, 3), owned(maxEpoch+1, 3),
		offered(0, 2), offered(maxEpoch, 2), offered(1, 3), offered(1, -1), offered(1, 8),
		committed(0, 2), committed(maxEpoch+1, 2), committed(1, 3), committed(1, 8),
		installed(0, 2), installed(maxEpoch+1, 2), installed(1, 3), installed(1, -1),
		released(0, 2), released(maxEpoch+1, 2), released(1, 3), released(1, 8),
	}
}

func wantStep(t *testing.T, server int, l api.Ledger, r api.Record, wanted api.Ledger) {
	t.Helper()
	if got, err := ledger.Step(server, l, r); got != wanted || err != api.OK {
		t.Errorf("Step(%d, %v, kind %d, epoch %d, peer %d): %v, error %d; wanted %v", server, l, r.Kind, r.Epoch, r.Peer, got, err, wanted)
	}
}

func wantRefused(t *testing.T, server int, l api.Ledger, r api.Record, wanted api.Errno) {
	t.Helper()
	if got, err := ledger.Step(server, l, r); got != (api.Ledger{}) || err != wanted {
		t.Errorf("Step(%d, %v, kind %d, epoch %d, peer %d): %v, error %d; wanted error %d", server, l, r.Kind, r.Epoch, r.Peer, got, err, wanted)
	}
}

func wantHear(t *testing.T, server int, l api.Ledger, kind, epoch, from, record, reply int) {
	t.Helper()
	if a, b := ledger.Hear(server, l, kind, epoch, from); a != record || b != reply {
		t.Errorf("Hear(%d, %v, kind %d, epoch %d, from %d): %d, %d; wanted %d, %d", server, l, kind, epoch, from, a, b, record, reply)
	}
}

func wantHolder(t *testing.T, all []api.Ledger, wanted int) {
	t.Helper()
	if got := ledger.Holder(all); got != wanted {
		t.Errorf("Holder(%v): %d; wanted %d", all, got, wanted)
	}
}

func wantSound(t *testing.T, all []api.Ledger, wanted bool) {
	t.Helper()
	if got := ledger.Sound(all); got != wanted {
		t.Errorf("Sound(%v): %v; wanted %v", all, got, wanted)
	}
}
