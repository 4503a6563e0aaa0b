package state_test

import (
	"fmt"
	"testing"

	"haulage/api"
	"haulage/jump"
	"haulage/state"
)

// P17.1, P0.5: New at each number's least and greatest, one below and one above, and far beyond.
func TestNewAtEdges(t *testing.T) {
	servers := append(farNumbers(), -1, 0, 1, 2, 7, 8, 9, 10)
	shards := append(farNumbers(), -1, 0, 1, 2, 63, 64, 65, 66)
	oks := 0
	for _, most := range servers {
		for _, server := range append(farNumbers(), -2, -1, 0, 1, 6, 7, 8, 9, most-2, most-1, most, most+1) {
			for _, n := range shards {
				what := fmt.Sprintf("New(%d, %d, %d)", server, most, n)
				ok := most >= 1 && most <= 8 && server >= 0 && server < most && n >= 1 && n <= 64
				s, err := state.New(server, most, n)
				wantBool(t, what+": a state", s != nil, ok)
				if !ok {
					wantErr(t, what, err, api.ErrArg)
					continue
				}
				oks++
				wantErr(t, what, err, api.OK)
				wantBytes(t, what, s.Bytes(), begun(server, most, n).form())
				wantNum(t, what+": Size", s.Size(), len(begun(server, most, n).form()))
			}
		}
	}
	if oks < 60 {
		t.Fatalf("only %d of them were right", oks)
	}
}

// P17.1, P17.5: all that each new state tells, of each server of each number of servers.
func TestNewOfEach(t *testing.T) {
	for servers := 1; servers <= maxServers; servers++ {
		for server := range servers {
			for _, shards := range []int{1, 2, 9, maxShards} {
				m := begun(server, servers, shards)
				wantState(t, fmt.Sprintf("New(%d, %d, %d)", server, servers, shards), made(t, server, servers, shards), m)
			}
		}
	}
}

// P17.1: each shard is Owned by its home alone; all others have it Absent with the home as their Peer, and without a copy.
func TestEachShardHasOneHome(t *testing.T) {
	for servers := 1; servers <= maxServers; servers++ {
		for shard := range maxShards {
			home := jump.Home(shard, servers)
			for server := range servers {
				s := made(t, server, servers, maxShards)
				if server == home {
					wantLedger(t, s, shard, owned(0, server))
					wantBytes(t, "the copy", s.Export(shard), newCopy())
				} else {
					wantLedger(t, s, shard, absent(home))
					wantNum(t, "no copy", len(s.Export(shard)), 0)
				}
			}
		}
	}
}

// P17.1: forms written out, by the homes that chapter 3's examples tell: 0 0 1 1 1 0 of six shards among three servers.
func TestNewWrittenOut(t *testing.T) {
	wantBytes(t, "server 0 of 3", made(t, 0, 3, 6).Bytes(), []byte{0, 3, 6,
		1, 0, 0, 0, 0, 0, 1, 0, 0, 0, 0, 0, 0, 0, 0, 0, 0, 1, 0, 0, 0, 0, 0, 1, 0, 0, 0, 0, 0, 1, 1, 0, 0, 0, 0, 0,
		4, 2, 0, 0, 0, 4, 2, 0, 0, 0, 4, 2, 0, 0, 0})
	wantBytes(t, "server 1 of 3", made(t, 1, 3, 6).Bytes(), []byte{1, 3, 6,
		0, 0, 0, 0, 0, 0, 0, 0, 0, 0, 0, 0, 1, 0, 0, 0, 0, 1, 1, 0, 0, 0, 0, 1, 1, 0, 0, 0, 0, 1, 0, 0, 0, 0, 0, 0,
		4, 2, 0, 0, 0, 4, 2, 0, 0, 0, 4, 2, 0, 0, 0})
	wantBytes(t, "server 2 of 3", made(t, 2, 3, 6).Bytes(), []byte{2, 3, 6,
		0, 0, 0, 0, 0, 0, 0, 0, 0, 0, 0, 0, 0, 0, 0, 0, 0, 1, 0, 0, 0, 0, 0, 1, 0, 0, 0, 0, 0, 1, 0, 0, 0, 0, 0, 0})
}

// P17.1: two states have nothing to do with one another.
func TestTwoStates(t *testing.T) {
	first, second := made(t, 0, 3, 6), made(t, 0, 3, 6)
	m := begun(0, 3, 6)
	for i := range 20 {
		wantAsTold(t, "the first", first, &m, write(i%2, 1, 1+i, put("a", "1")))
	}
	wantTaken(t, first, offer(5, 2))
	wantState(t, "the other one", second, begun(0, 3, 6))
	third := read(t, first.Bytes())
	wantTaken(t, third, offer(0, 1))
	wantLedger(t, first, 0, owned(0, 0))
	wantTaken(t, first, plain(api.RecCommit, 5))
	wantLedger(t, third, 5, offered(1, 2))
}
