package state_test

import (
	"fmt"
	"testing"

	"haulage/api"
)

// recordsOfAllKinds are records for one shard, of which each state takes some.
func recordsOfAllKinds(shard int) []api.Record {
	all := []api.Record{
		write(shard, 0, 100, put("k1", "new")), write(shard, 9, 1, del("k1")), write(shard, 9, 1, swap("zz", "", 0)), write(shard, 0, 1, put("a", "")), write(shard, 0, 100, get("a")),
		offer(shard, 0), offer(shard, 2), offer(shard, 1), offer(shard, 3),
		plain(9, shard), plain(0, shard),
	}
	for _, kind := range []int{api.RecCancel, api.RecCommit, api.RecOwn, api.RecRelease, api.RecForget} {
		all = append(all, plain(kind, shard))
	}
	for _, epoch := range []int{1, 4, 8, 201, 70001, maxEpoch - 1, maxEpoch} {
		all = append(all, install(shard, epoch, 2, copyOf(20)), install(shard, epoch, 0, newCopy()), install(shard, epoch, 2, nil))
	}
	return all
}

// P17.10: a record of one shard changes nothing of any other one, be it taken or refused.
func TestShardsApart(t *testing.T) {
	m := mixed()
	taken := 0
	for shard := -1; shard <= 7; shard++ {
		for _, r := range recordsOfAllKinds(shard) {
			s, next := stateOf(t, m), m.clone()
			if wantAsTold(t, "apart", s, &next, r) == api.OK {
				taken++
			}
			for other := range 7 {
				if other != shard {
					wantShard(t, fmt.Sprintf("shard %d behind %s", other, short(r)), s, m, other)
				}
			}
			wantShard(t, "the shard itself", s, next, shard)
		}
	}
	if taken < 30 {
		t.Fatalf("only %d of them were taken", taken)
	}
}

// P17.11: between an Offer and the Cancel, or the Release, the copy stays, byte by byte, whatever records come, taken or not, of this shard and of others.
func TestFrozenCopiesStay(t *testing.T) {
	for _, way := range [][]int{{api.RecCancel}, {api.RecCommit, api.RecRelease}} {
		m := mixed()
		s := stateOf(t, m)
		frozen, root := s.Export(2), s.Root(2)
		wantErr(t, "Offer", wantAsTold(t, "Offer", s, &m, offer(2, 0)), api.OK)
		for _, kind := range way {
			for _, shard := range []int{2, 1, 0, 6, 3, 4, 5} {
				for _, r := range recordsOfAllKinds(shard) {
					if next, _ := m.applied(r); next.ledgers[2] != m.ledgers[2] {
						continue // it would lead on ahead of its time
					}
					wantAsTold(t, "frozen", s, &m, r)
					wantBytes(t, "frozen, behind "+short(r), s.Export(2), frozen)
					wantMark(t, "frozen, behind "+short(r), s.Root(2), root)
				}
			}
			wantErr(t, "one step on", wantAsTold(t, "one step on", s, &m, plain(kind, 2)), api.OK)
			if kind != api.RecRelease {
				wantBytes(t, "behind one step", s.Export(2), frozen)
			}
		}
	}
}

// P17.11: an Owned copy changes by Writes alone; and a Write that is taken does change it.
func TestOwnedCopiesStay(t *testing.T) {
	for _, shard := range []int{2, 6} {
		for _, r := range recordsOfAllKinds(shard) {
			m := mixed()
			s := stateOf(t, m)
			was := s.Export(shard)
			err := wantAsTold(t, "Owned", s, &m, r)
			changed := string(s.Export(shard)) != string(was)
			wantBool(t, "changed by "+short(r), changed, err == api.OK && r.Kind == api.RecWrite)
		}
	}
}
