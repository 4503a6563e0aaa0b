package ledger_test

import (
	"testing"

	"haulage/api"
	"haulage/ledger"
)

// P15.1: the row of Begin.
func TestExampleBegin(t *testing.T) {
	if a, b := ledger.Begin(2, 2), ledger.Begin(1, 2); a != owned(0, 2) || b != absent(0, 2) {
		t.Errorf("Begin: %v; %v", a, b)
	}
}

// P15.3: the rows of Step.
func TestExampleStep(t *testing.T) {
	wantStep(t, 2, owned(0, 2), offerTo(1), offered(1, 1))
	wantRefused(t, 2, owned(0, 2), offerTo(2), api.ErrLedgerPeer)
	wantRefused(t, 2, owned(0, 2), offerTo(8), api.ErrLedgerPeer)
	wantStep(t, 1, absent(0, 2), install(1, 2), installed(1, 2))
	wantRefused(t, 1, absent(0, 2), install(0, 2), api.ErrLedgerEpoch)
	wantStep(t, 2, offered(1, 1), rec(api.RecCommit), committed(1, 1))
	wantStep(t, 2, offered(1, 1), rec(api.RecCancel), owned(2, 2))
	wantRefused(t, 2, offered(1, 1), rec(api.RecOwn), api.ErrLedgerPhase)
	wantRefused(t, 2, offered(1, 1), rec(api.RecWrite), api.ErrLedgerPhase)
	wantRefused(t, 1, owned(0, 2), rec(api.RecCommit), api.ErrArg)
	wantRefused(t, 1, absent(0, 2), rec(9), api.ErrArg)
}

// P15.4: the rows of Hear.
func TestExampleHear(t *testing.T) {
	wantHear(t, 1, absent(0, 2), api.MailOffer, 1, 2, api.RecInstall, api.MailHave)
	wantHear(t, 1, installed(1, 2), api.MailOffer, 1, 2, 0, api.MailHave)
	wantHear(t, 2, owned(2, 2), api.MailHave, 1, 1, 0, api.MailCancel)
	wantHear(t, 2, offered(3, 0), api.MailHave, 3, 1, 0, 0)
	wantHear(t, 1, owned(1, 1), api.MailCommit, 1, 2, 0, api.MailMine)
	wantHear(t, 1, absent(0, 2), api.MailCommit, 1, 2, 0, 0)
}

// P15.5: the row of Nag.
func TestExampleNag(t *testing.T) {
	if a, b := ledger.Nag(installed(1, 2)), ledger.Nag(owned(1, 1)); a != api.MailHave || b != 0 {
		t.Errorf("Nag: %d; %d", a, b)
	}
}

// P15.6: the row of Holder.
func TestExampleHolder(t *testing.T) {
	wantHolder(t, row(committed(1, 1), owned(1, 1)), 1)
	wantHolder(t, row(committed(1, 1), offered(2, 0)), 1)
	wantHolder(t, row(absent(0, 1), released(2, 0)), -1)
}

// P15.7: the row of Sound.
func TestExampleSound(t *testing.T) {
	wantSound(t, row(offered(1, 1), installed(1, 0)), true)
	wantSound(t, row(owned(0, 0), owned(0, 1)), false)
	wantSound(t, row(committed(1, 1), offered(2, 0)), true)
	wantSound(t, row(committed(1, 1), absent(0, 0)), false)
}
