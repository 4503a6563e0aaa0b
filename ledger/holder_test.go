package ledger_test

import (
	"math/rand"
	"testing"

	"haulage/api"
	"haulage/ledger"
)

// P15.6: rows of no ledger, of one, and with nobody who claims the shard.
func TestHolderNone(t *testing.T) {
	wantHolder(t, nil, -1)
	wantHolder(t, row(), -1)
	wantHolder(t, row(absent(0, 1)), -1)
	wantHolder(t, row(installed(5, 1)), -1)
	wantHolder(t, row(released(5, 1)), -1)
	wantHolder(t, row(api.Ledger{Phase: -1, Epoch: 9}, api.Ledger{Phase: 6, Epoch: 9}), -1)
	wantHolder(t, row(owned(0, 0)), 0)
	wantHolder(t, row(offered(1, 1)), 0)
	wantHolder(t, row(committed(1, 1)), 0)
}

// P15.6: the greatest epoch wins, in whichever phase of the three, wherever it stands.
func TestHolderGreatest(t *testing.T) {
	low := []api.Ledger{owned(4, 0), offered(4, 1), committed(4, 1)}
	for _, high := range []api.Ledger{owned(5, 0), offered(5, 1), committed(5, 1)} {
		for place := range 4 {
			var all []api.Ledger
			all = append(all, low[:place]...)
			all = append(all, high)
			all = append(all, low[place:]...)
			wantHolder(t, all, place)
		}
	}
}

// P15.6: with the same epoch the Owned one wins; of several that are left none does.
func TestHolderSeveral(t *testing.T) {
	wantHolder(t, row(committed(3, 1), owned(3, 1), offered(3, 0)), 1)
	wantHolder(t, row(owned(3, 1), committed(3, 1), committed(3, 1)), 0)
	wantHolder(t, row(offered(3, 1), committed(3, 0), owned(3, 2)), 2)
	wantHolder(t, row(owned(3, 0), owned(3, 1)), -1)
	wantHolder(t, row(owned(3, 0), committed(3, 1), owned(3, 1)), -1)
	wantHolder(t, row(offered(3, 1), offered(3, 0)), -1)
	wantHolder(t, row(committed(3, 1), committed(3, 0)), -1)
	wantHolder(t, row(offered(3, 1), committed(3, 0)), -1)
	wantHolder(t, row(committed(3, 1), offered(3, 0), owned(2, 2)), -1)
	wantHolder(t, row(committed(3, 1), offered(3, 0), owned(4, 2)), 2)
	wantHolder(t, row(owned(3, 1), owned(3, 0), committed(4, 2)), 2)
	wantHolder(t, row(committed(4, 2), owned(3, 1), owned(3, 0)), 0)
}

// P15.6: what does not claim the shard counts for nothing, whatever its epoch; and peers never count.
func TestHolderPassesOver(t *testing.T) {
	wantHolder(t, row(installed(9, 1), offered(1, 0)), 1)
	wantHolder(t, row(released(9, 1), owned(0, 1), absent(0, 1)), 1)
	wantHolder(t, row(owned(2, -5), installed(3, 90)), 0)
	wantHolder(t, row(committed(1, 1<<40), owned(1, -1<<40)), 1)
}

// P15.6: ledgers that are sound nowhere, epochs below 0 and beyond the end; and a row of nine.
func TestHolderUnsound(t *testing.T) {
	far := farNumbers()
	wantHolder(t, row(owned(far[0], 0)), 0)
	wantHolder(t, row(offered(-2, 0), committed(-1, 0)), 1)
	wantHolder(t, row(committed(far[0], 0), owned(far[0], 0)), 1)
	wantHolder(t, row(owned(maxEpoch+1, 0), committed(far[4], 1)), 1)
	wantHolder(t, row(absent(0, 8), absent(0, 8), absent(0, 8), absent(0, 8), absent(0, 8), absent(0, 8), absent(0, 8), absent(0, 8), owned(0, 8)), 8)
}

// P15.6: against the second telling, all rows of up to three of any phase and few epochs.
func TestHolderTold(t *testing.T) {
	each := ledgersOf(span(-1, 6), span(-1, 2), []int{0})
	wantTold := func(all []api.Ledger) {
		if got, wanted := ledger.Holder(all), toldHolder(all); got != wanted {
			t.Fatalf("Holder(%v): %d; wanted %d", all, got, wanted)
		}
	}
	for _, a := range each {
		wantTold(row(a))
		for _, b := range each {
			wantTold(row(a, b))
			for _, c := range each {
				wantTold(row(a, b, c))
			}
		}
	}
	dice := rand.New(rand.NewSource(15))
	for range 100000 {
		all := make([]api.Ledger, dice.Intn(12))
		for i := range all {
			all[i] = api.Ledger{Phase: dice.Intn(8) - 1, Epoch: dice.Intn(4) - 1, Peer: dice.Intn(12) - 2}
		}
		wantTold(all)
	}
}
