package ledger_test

import (
	"bytes"
	"slices"
	"testing"

	"haulage/api"
	"haulage/ledger"
)

// P15.8, P0.4: a row and the spare room behind it stay as they are; written over afterwards it changes no earlier answer, and no later one of the same row.
func TestRowsStay(t *testing.T) {
	for _, all := range [][]api.Ledger{
		row(offered(1, 1), installed(1, 0), absent(0, 0)),
		row(committed(1, 1), owned(1, 1), released(9, 0)),
		row(owned(5, 1), api.Ledger{Phase: 70, Epoch: -3, Peer: 99}),
		row(owned(5, 0), owned(5, 1)),
	} {
		room := append(slices.Clone(all), committed(77, 7), owned(88, 8))
		before := slices.Clone(room)
		handed := room[:len(all)]
		holder, sound := ledger.Holder(handed), ledger.Sound(handed)
		if !slices.Equal(room, before) {
			t.Errorf("behind Holder and Sound of %v: %v", before, room)
		}
		for i := range room {
			room[i] = owned(3, i)
		}
		if holder != toldHolder(all) || sound != toldSound(all) || ledger.Holder(all) != holder || ledger.Sound(all) != sound {
			t.Errorf("of %v: Holder %d, then %d; Sound %v, then %v", all, holder, ledger.Holder(all), sound, ledger.Sound(all))
		}
	}
}

// P15.8: the spare room behind a row counts for nothing.
func TestRowsSpareRoomUnread(t *testing.T) {
	room := row(owned(0, 0), absent(0, 0), owned(9, 2))
	wantHolder(t, room[:2], 0)
	wantSound(t, room[:2], true)
	wantHolder(t, room[:0], -1)
	wantSound(t, room[:0], false)
}

// P15.8, P0.4: a record's lists and the spare room behind them stay as they are.
func TestRecordsStay(t *testing.T) {
	texts := [][]byte{[]byte("key and more"), []byte("value and more"), []byte("copy and more")}
	before := [][]byte{bytes.Clone(texts[0]), bytes.Clone(texts[1]), bytes.Clone(texts[2])}
	for kind := range 10 {
		for _, l := range soundLedgers(2) {
			r := api.Record{Kind: kind, Epoch: l.Epoch + 1, Peer: 5, Op: api.Op{Kind: api.OpPut, Key: texts[0][:3], Value: texts[1][:5]}, Copy: texts[2][:4]}
			got, err := ledger.Step(2, l, r)
			for i := range texts {
				if !bytes.Equal(texts[i], before[i]) {
					t.Fatalf("behind Step of kind %d: %q", kind, texts[i])
				}
			}
			r.Epoch, r.Peer = -1, -1
			if again, errAgain := ledger.Step(2, l, api.Record{Kind: kind, Epoch: l.Epoch + 1, Peer: 5}); again != got || errAgain != err {
				t.Fatalf("Step(2, %v, kind %d): %v, error %d; again: %v, error %d", l, kind, got, err, again, errAgain)
			}
		}
	}
}

// P15.8: nothing is kept: what was asked ahead of it changes no answer.
func TestNothingKept(t *testing.T) {
	ask := func() {
		ledger.Step(1, owned(7, 1), offerTo(2))
		ledger.Step(1, owned(7, 2), rec(99))
		ledger.Hear(1, installed(7, 2), api.MailCommit, 7, 2)
		ledger.Holder(row(owned(9, 0)))
		ledger.Sound(row(owned(9, 3), owned(9, 3)))
	}
	for range 3 {
		ask()
		wantStep(t, 2, owned(0, 2), offerTo(1), offered(1, 1))
		ask()
		wantHear(t, 1, absent(0, 2), api.MailOffer, 1, 2, api.RecInstall, api.MailHave)
		ask()
		wantHolder(t, row(absent(0, 1), released(2, 0)), -1)
		ask()
		wantSound(t, row(offered(1, 1), installed(1, 0)), true)
	}
}
