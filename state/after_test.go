package state_test

import (
	"fmt"
	"testing"

	"haulage/api"
)

// P17.3, P17.8, P17.1: the form's length where a copy's own length takes a byte more, by Writes one behind the other.
func TestSizesWhereLengthsGrow(t *testing.T) {
	s, m := made(t, 1, 3, 5), begun(1, 3, 5)
	seen := map[int]int{}
	for seq := 1; len(m.copies[2]) < 17000; seq++ {
		key, value := text(1+seq%maxKey, seq), text(seq%7, seq)
		if seq > 60 {
			value = text(maxValue, seq)
		}
		wantErr(t, "a Write", wantAsTold(t, "a Write", s, &m, write(2, seq%5, seq, put(key, value))), api.OK)
		seen[len(appendNum(nil, len(m.copies[2])))]++
	}
	wantNum(t, "lengths of one, two and three bytes", len(seen), 3)
}

// P17.3, P17.8: the same, by Installs of each size around the edges.
func TestSizesOfInstalls(t *testing.T) {
	m := begun(1, 3, 2)
	for _, edge := range []int{16384, maxCopy} {
		for size := edge - 3; size <= min(edge+3, maxCopy); size++ {
			s, next := stateOf(t, m), m.clone()
			wantErr(t, "Install", wantAsTold(t, "Install", s, &next, install(0, 1, 2, copyOfSize(size, 10000))), api.OK)
			wantErr(t, "Install", wantAsTold(t, "Install over it", s, &next, install(0, 2, 2, newCopy())), api.OK)
			wantErr(t, "Install", wantAsTold(t, "Install over it", s, &next, install(0, 3, 2, copyOfSize(size, 10000))), api.OK)
			wantErr(t, "Forget", wantAsTold(t, "Forget", s, &next, plain(api.RecForget, 0)), api.OK)
		}
	}
	for value := range 200 { // a copy's length goes over 127 here
		s, next := stateOf(t, m), m.clone()
		copied := copyAt(9, rowForm("a", text(value, 1), 3))
		wantErr(t, "Install", wantAsTold(t, "Install", s, &next, install(0, 1, 2, copied)), api.OK)
		wantNum(t, "Size", s.Size(), 3+2*6+len(appendText(nil, copied)))
	}
}

// P17.3: After of records that are taken, written out; it changes nothing, however often it is asked.
func TestAfterWrittenOut(t *testing.T) {
	s := made(t, 1, 3, 3) // 3 + 18 bytes, and 5 of the copy of shard 2
	for range 3 {
		wantNum(t, "Size", s.Size(), 26)
		wantAfter(t, s, write(2, 0, 1, put("a", "1")), 38)
		wantAfter(t, s, write(2, 0, 1, del("a")), 33)
		wantAfter(t, s, offer(2, 0), 26)
		wantAfter(t, s, install(0, 1, 0, newCopy()), 31)
		wantAfter(t, s, install(0, 1, 0, copyOf(9)), 27+len(copyOf(9)))
		wantState(t, "behind After", s, begun(1, 3, 3))
	}
	wantTaken(t, s, offer(2, 0))
	wantAfter(t, s, plain(api.RecCancel, 2), 26)
	wantAfter(t, s, plain(api.RecCommit, 2), 26)
	wantTaken(t, s, plain(api.RecCommit, 2))
	wantAfter(t, s, plain(api.RecRelease, 2), 21)
	wantTaken(t, s, install(0, 9, 2, newCopy()))
	wantAfter(t, s, plain(api.RecOwn, 0), 31)
	wantAfter(t, s, plain(api.RecForget, 0), 26)
	wantAfter(t, s, install(0, 10, 2, copyOf(9)), 27+len(copyOf(9)))
	wantAfter(t, s, plain(api.RecRelease, 2), 26)
}

// P17.9: of all records but Write and Install the Size behind is no greater: the same, but of Release and Forget, behind which the copy's piece is gone.
func TestSizesOfOtherRecords(t *testing.T) {
	for _, copied := range [][]byte{newCopy(), copyOf(6), copyOf(60), copyOfSize(20000, 10000)} {
		for from, kinds := range map[api.Ledger][]int{
			owned(3, 1): {api.RecOffer}, offered(3, 2): {api.RecCancel, api.RecCommit}, committed(3, 2): {api.RecRelease}, installed(3, 2): {api.RecOwn, api.RecForget},
		} {
			for _, kind := range kinds {
				m := begun(1, 3, 4).with(3, from, copied)
				s := stateOf(t, m)
				size := s.Size()
				if kind == api.RecRelease || kind == api.RecForget {
					size -= len(appendText(nil, copied))
				}
				r := api.Record{Kind: kind, Shard: 3}
				wantAfter(t, s, r, size)
				wantTaken(t, s, r)
				wantNum(t, fmt.Sprint("Size behind kind ", kind), s.Size(), size)
			}
		}
	}
}

// P17.3: After of what is refused has the error that Apply has, and nothing beside it; it is said ahead of any Apply.
func TestAfterOfRefused(t *testing.T) {
	m := mixed()
	s := stateOf(t, m)
	for _, r := range []api.Record{plain(9, 0), plain(api.RecOwn, 0), plain(api.RecOwn, 7), offer(2, 1), offer(2, 3), offer(6, 0), install(4, 200, 0, newCopy()), install(4, 201, 0, nil), write(2, 0, 1, put("a", "")), write(2, 0, 99, get("a")), write(2, 16, 99, put("a", ""))} {
		n, err := s.After(r)
		_, wanted := m.clone().applied(r)
		wantErr(t, "After of "+short(r), err, wanted)
		wantBool(t, "it is refused", err != api.OK, true)
		wantNum(t, "After beside an error", n, 0)
	}
	wantState(t, "behind them", s, m)
}
