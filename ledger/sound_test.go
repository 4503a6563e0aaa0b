package ledger_test

import (
	"math/rand"
	"testing"

	"haulage/api"
	"haulage/ledger"
)

// firstRow is how servers begin.
func firstRow(servers, home int) []api.Ledger {
	all := make([]api.Ledger, servers)
	for server := range all {
		all[server] = ledger.Begin(server, home)
	}
	return all
}

// P15.6, P15.7: rows of 1 to 8 ledgers as they begin; none, and too many.
func TestSoundLengths(t *testing.T) {
	wantSound(t, nil, false)
	wantSound(t, row(), false)
	for servers := 1; servers <= 12; servers++ {
		for home := range servers {
			wantSound(t, firstRow(servers, home), servers <= 8)
			wantHolder(t, firstRow(servers, home), home)
		}
	}
	wantSound(t, row(owned(maxEpoch, 0)), true)
	wantSound(t, row(offered(1, 1)), false)
}

// P15.7: a ledger that is not sound at its server, as the Holder and beside it.
func TestSoundLedgers(t *testing.T) {
	beside := func(l api.Ledger) []api.Ledger {
		return row(owned(9, 0), absent(0, 0), released(9, 0), l, absent(0, 0), absent(0, 0), absent(0, 0), absent(0, 0))
	}
	alone := func(l api.Ledger) []api.Ledger {
		return row(absent(0, 3), absent(0, 3), released(1, 3), l, absent(0, 3), absent(0, 3), absent(0, 3), absent(0, 3))
	}
	for _, l := range []api.Ledger{absent(0, 2), committed(1, 2), installed(1, 2), released(1, 2)} {
		wantSound(t, beside(l), true)
	}
	for _, l := range []api.Ledger{owned(1, 3), owned(maxEpoch, 3), offered(1, 2), offered(maxEpoch-1, 2), committed(1, 2)} {
		wantSound(t, alone(l), true)
	}
	for _, l := range wrongLedgers() {
		wantSound(t, beside(l), false)
		wantSound(t, alone(l), false)
	}
	wantSound(t, row(owned(9, 1), absent(0, 0)), false)
	wantSound(t, row(owned(9, 0), absent(0, 1)), false)
	wantSound(t, row(owned(9, 0), absent(1, 0)), false)
}

// P15.7: no peer is beyond the row.
func TestSoundPeersInRow(t *testing.T) {
	for _, l := range []func(epoch, peer int) api.Ledger{committed, installed, released} {
		wantSound(t, row(l(1, 1), owned(2, 1)), true)
		wantSound(t, row(owned(2, 0), l(1, 0)), true)
		for _, peer := range []int{2, 3, 7} {
			wantSound(t, row(owned(2, 0), l(1, peer)), false)
			wantSound(t, row(l(1, peer), owned(2, 1)), false)
		}
	}
	for peer := 1; peer <= 7; peer++ {
		wantSound(t, row(absent(0, peer), owned(0, 1)), peer == 1)
		wantSound(t, row(offered(1, peer), absent(0, 0)), peer == 1)
	}
}

// P15.7: there is a Holder.
func TestSoundHolder(t *testing.T) {
	wantSound(t, row(absent(0, 1), released(1, 0)), false)
	wantSound(t, row(absent(0, 1), absent(0, 0)), false)
	wantSound(t, row(committed(1, 2), committed(1, 2), released(1, 0)), false)
	wantSound(t, row(committed(1, 2), released(1, 2), released(1, 0)), true)
	wantSound(t, row(committed(1, 2), committed(1, 2), owned(1, 2)), true)
}

// P15.7: no epoch is above the Holder's.
func TestSoundNoneAbove(t *testing.T) {
	wantSound(t, row(owned(2, 0), released(2, 0)), true)
	wantSound(t, row(owned(2, 0), released(3, 0)), false)
	wantSound(t, row(offered(2, 1), released(2, 0)), true)
	wantSound(t, row(offered(2, 1), released(3, 0)), false)
	wantSound(t, row(committed(2, 1), released(2, 0)), true)
	wantSound(t, row(committed(2, 1), released(3, 0)), false)
	wantSound(t, row(owned(3, 0), installed(2, 2), released(3, 0)), true)
	wantSound(t, row(owned(1, 0), installed(2, 2), released(3, 0)), false)
	wantSound(t, row(released(maxEpoch, 1), owned(maxEpoch, 1)), true)
	wantSound(t, row(released(maxEpoch, 1), owned(maxEpoch-1, 1)), false)
}

// P15.7: who is Owned or Offered is the Holder.
func TestSoundOneServes(t *testing.T) {
	wantSound(t, row(owned(2, 0), released(1, 0)), true)
	wantSound(t, row(owned(2, 0), owned(1, 1)), false)
	wantSound(t, row(owned(1, 0), owned(2, 1)), false)
	wantSound(t, row(owned(2, 0), offered(1, 0)), false)
	wantSound(t, row(owned(2, 0), offered(2, 0)), false)
	wantSound(t, row(offered(2, 1), offered(1, 0)), false)
	wantSound(t, row(offered(2, 1), owned(1, 1)), false)
	wantSound(t, row(committed(2, 2), owned(1, 1), released(2, 0)), false)
	wantSound(t, row(committed(2, 2), offered(1, 0), released(2, 0)), false)
	wantSound(t, row(committed(2, 2), committed(1, 0), released(2, 0)), true)
}

// P15.7: who is Committed has a peer that is as far, and is not waiting for it in vain.
func TestSoundCommitted(t *testing.T) {
	wantSound(t, row(committed(1, 1), absent(0, 0)), false)
	wantSound(t, row(committed(3, 1), released(2, 0)), false)
	wantSound(t, row(committed(3, 1), released(3, 0)), true)
	wantSound(t, row(committed(3, 1), released(2, 0), owned(4, 2)), false)
	wantSound(t, row(committed(3, 1), released(3, 0), owned(4, 2)), true)
	wantSound(t, row(committed(3, 1), released(4, 0), owned(4, 2)), true)
	wantSound(t, row(committed(1, 1), installed(1, 0)), true)
	wantSound(t, row(committed(1, 1), installed(1, 2), owned(2, 2)), false)
	wantSound(t, row(committed(1, 1), installed(2, 2), owned(3, 2)), true)
	wantSound(t, row(committed(1, 1), owned(1, 1)), true)
	wantSound(t, row(committed(1, 1), owned(2, 1)), true)
	wantSound(t, row(committed(1, 1), committed(2, 2), owned(2, 2)), true)
}

// P15.7: who is Installed has a peer that is as far; one of the same epoch holds the shard for it.
func TestSoundInstalled(t *testing.T) {
	wantSound(t, row(owned(2, 0), installed(1, 2), released(2, 0)), true)
	wantSound(t, row(owned(2, 0), installed(1, 2), absent(0, 0)), false)
	wantSound(t, row(owned(2, 0), installed(1, 2), released(1, 0)), false)
	wantSound(t, row(owned(2, 0), installed(1, 2), committed(1, 0)), false)
	wantSound(t, row(owned(2, 0), installed(2, 0)), false)
	wantSound(t, row(owned(2, 0), installed(1, 0)), true)
	for _, l := range []func(epoch, peer int) api.Ledger{offered, committed} {
		wantSound(t, row(l(1, 1), installed(1, 0), released(1, 0)), true)
		wantSound(t, row(l(1, 2), installed(1, 0), released(1, 0)), false)
		wantSound(t, row(l(2, 2), installed(1, 0), released(2, 0)), true)
		wantSound(t, row(l(1, 1), installed(1, 0), installed(1, 0)), false)
		wantSound(t, row(l(2, 1), installed(1, 2), installed(1, 0)), false)
	}
}

// wantSoundTold holds Sound and Holder against the second telling.
func wantSoundTold(t *testing.T, all []api.Ledger) bool {
	t.Helper()
	wanted := toldSound(all)
	if got := ledger.Sound(all); got != wanted {
		t.Fatalf("Sound(%v): %v; wanted %v", all, got, wanted)
	}
	if got := ledger.Holder(all); got != toldHolder(all) {
		t.Fatalf("Holder(%v): %d; wanted %d", all, got, toldHolder(all))
	}
	return wanted
}

// P15.7: against the second telling, all rows of up to three of any phase, few epochs, and peers in the row and beyond.
func TestSoundTold(t *testing.T) {
	two := ledgersOf(span(0, 5), span(0, 4), span(0, 2))
	three := ledgersOf(span(0, 5), span(0, 2), span(0, 3))
	sound := 0
	count := func(all []api.Ledger) {
		if wantSoundTold(t, all) {
			sound++
		}
	}
	for _, a := range two {
		count(row(a))
		for _, b := range two {
			count(row(a, b))
		}
	}
	for _, a := range three {
		for _, b := range three {
			for _, c := range three {
				count(row(a, b, c))
			}
		}
	}
	if sound < 1000 {
		t.Errorf("only %d of these rows are sound", sound)
	}
}

// P15.7: against the second telling, rows of up to nine that are sound, or were, but for a field or two.
func TestSoundToldTurned(t *testing.T) {
	dice := rand.New(rand.NewSource(157))
	verdicts := map[bool]int{}
	for range 3000 {
		r := newRun(t, firstRow(2+dice.Intn(7), 0), dice)
		for range dice.Intn(80) {
			r.act()
		}
		verdicts[wantSoundTold(t, r.row)]++
		for range 40 {
			all := append(row(), r.row...)
			for range 1 + dice.Intn(2) {
				l := &all[dice.Intn(len(all))]
				field := []*int{&l.Phase, &l.Epoch, &l.Peer}[dice.Intn(3)]
				*field += dice.Intn(7) - 3
			}
			if dice.Intn(20) == 0 {
				all = append(all, all[0])
			}
			verdicts[wantSoundTold(t, all)]++
		}
	}
	if verdicts[true] < 1000 || verdicts[false] < 1000 {
		t.Errorf("the verdicts: %v", verdicts)
	}
}
