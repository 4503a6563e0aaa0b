package ledger_test

import (
	"math"
	"testing"

	"haulage/api"
	"haulage/ledger"
)

// P15.1: whatever numbers they are, below 0 and beyond the servers too.
func TestBegin(t *testing.T) {
	numbers := append(farNumbers(), span(-3, 12)...)
	for _, server := range numbers {
		for _, home := range numbers {
			wanted := absent(0, home)
			if server == home {
				wanted = owned(0, server)
			}
			if got := ledger.Begin(server, home); got != wanted {
				t.Fatalf("Begin(%d, %d): %v; wanted %v", server, home, got, wanted)
			}
		}
	}
}

// P15.1, P15.2: what begins is sound at each server.
func TestBeginIsSound(t *testing.T) {
	for server := range maxServers {
		for home := range maxServers {
			if l := ledger.Begin(server, home); !ledger.Valid(server, l) || ledger.Serves(l) != (server == home) || ledger.Keeps(l) != (server == home) {
				t.Errorf("Begin(%d, %d): %v", server, home, l)
			}
		}
	}
}

// P15.2: what may be in each phase, at the first server and at the last: epochs, and whose peer.
func TestValidPhases(t *testing.T) {
	epochs := []int{-1, 0, 1, maxEpoch - 1, maxEpoch, maxEpoch + 1}
	for _, c := range []struct {
		phase  int
		self   bool
		epochs [6]bool
	}{
		{phase: -1},
		{phase: api.Absent, epochs: [6]bool{1: true}},
		{phase: api.Owned, self: true, epochs: [6]bool{1: true, 2: true, 3: true, 4: true}},
		{phase: api.Offered, epochs: [6]bool{2: true, 3: true}},
		{phase: api.Committed, epochs: [6]bool{2: true, 3: true, 4: true}},
		{phase: api.Installed, epochs: [6]bool{2: true, 3: true, 4: true}},
		{phase: api.Released, epochs: [6]bool{2: true, 3: true, 4: true}},
		{phase: 6},
	} {
		for i, epoch := range epochs {
			for _, server := range []int{0, 3, 7} {
				for _, peer := range []int{-1, 0, 3, 4, 7, 8} {
					wanted := c.epochs[i] && (peer == server) == c.self && peer >= 0 && peer <= 7
					l := api.Ledger{Phase: c.phase, Epoch: epoch, Peer: peer}
					if got := ledger.Valid(server, l); got != wanted {
						t.Errorf("Valid(%d, %v): %v", server, l, got)
					}
				}
			}
		}
	}
}

// P15.2: at what is no server nothing is sound, the server's own number as the peer neither.
func TestValidServers(t *testing.T) {
	for _, server := range append(farNumbers(), -2, -1, 8, 9) {
		for _, peer := range []int{server, 0, 5, 7} {
			for _, epoch := range []int{0, 1, maxEpoch} {
				for _, l := range ledgersOf(span(-1, 6), []int{epoch}, []int{peer}) {
					if ledger.Valid(server, l) {
						t.Errorf("Valid(%d, %v)", server, l)
					}
				}
			}
		}
	}
	for server := range maxServers {
		if !ledger.Valid(server, owned(5, server)) || !ledger.Valid(server, absent(0, 7-server)) {
			t.Errorf("nothing is sound at %d", server)
		}
	}
}

// P15.2: against the second telling, all edges crossed.
func TestValidTold(t *testing.T) {
	phases := append(farNumbers(), span(-2, 7)...)
	peers := append(farNumbers(), span(-2, 9)...)
	for _, l := range ledgersOf(phases, edgeEpochs(), peers) {
		for _, server := range append(farNumbers(), span(-2, 9)...) {
			if got, wanted := ledger.Valid(server, l), toldValid(server, l); got != wanted {
				t.Fatalf("Valid(%d, %v): %v", server, l, got)
			}
		}
	}
}

// P15.2: by one thing alone a ledger is not sound.
func TestValidWrongByOne(t *testing.T) {
	for _, l := range wrongLedgers() {
		if ledger.Valid(3, l) {
			t.Errorf("Valid(3, %v)", l)
		}
	}
}

// P15.2, P15.5: Serves, Keeps and Nag hang on the phase alone, whatever else stands in a ledger.
func TestPhasesAlone(t *testing.T) {
	for phase, c := range map[int]struct {
		serves, keeps bool
		nag           int
	}{
		math.MinInt: {}, -1: {}, 0: {}, 5: {}, 6: {}, 7: {}, 1 << 32: {}, 1<<32 + 1: {}, math.MaxInt: {},
		1: {serves: true, keeps: true},
		2: {keeps: true, nag: 3},
		3: {keeps: true, nag: 5},
		4: {keeps: true, nag: 4},
	} {
		peers := append(farNumbers(), span(-1, 8)...)
		for _, l := range ledgersOf([]int{phase}, edgeEpochs(), peers) {
			if ledger.Serves(l) != c.serves || ledger.Keeps(l) != c.keeps || ledger.Nag(l) != c.nag {
				t.Fatalf("of %v: Serves %v, Keeps %v, Nag %d", l, ledger.Serves(l), ledger.Keeps(l), ledger.Nag(l))
			}
		}
	}
}
